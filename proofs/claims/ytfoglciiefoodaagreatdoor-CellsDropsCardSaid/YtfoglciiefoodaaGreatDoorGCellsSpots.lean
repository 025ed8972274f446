/- Texts of this proof, joined. -/
import Derived.Test.YtfoglciiefoodaaGreatDoorGCellsInsAny
import Derived.Test.YtfoglciiefoodaaGreatDoorGCellsBegL
import Derived.Test.YtfoglciiefoodaaGreatDoorGCellsText
import Derived.Test.YtfoglciiefoodaaGreatDoorGIter
import Derived.Test.YtfoglciiefoodaaGreatDoorGPlain
import Derived.Test.YtfoglciiefoodaaGreatDoorGRefOps
namespace Go.Proofs.YtfoglciiefoodaaGreatDoor
open Go.RowKit Go.Shelf
attribute [local go_sem] Oper.semAt_some

structure SzOK (W : World) (B g : Nat) (bv nm : Value) (bs : List PB) : Prop where
  box : W.heap[B]? = some (.cells #[bv, nm] 79 (0, 0))
  size : ∀ (k : Nat) (x : PB), bs[k]? = some x → ∃ cap a b : Nat, bv = .slice (some ⟨g, 0, none⟩) bs.length cap ∧ a + b = x.cs.length ∧ W.cell? ⟨g, k * 3, none⟩ = some (.int .i64 (a : Int)) ∧ W.cell? ⟨g, k * 3 + 1, none⟩ = some (.int .i64 (b : Int))
theorem SzOK.below {W W' : World} {B g : Nat} {bv nm : Value} {bs : List PB} (h : SzOK W B g bv nm bs) (hb : Below W.heap.size W W') : SzOK W' B g bv nm bs :=
  ⟨row_up h.box hb, fun k x hx => by obtain ⟨cp, a, b, hv, e, c0, c1⟩ := h.size k x hx; exact ⟨cp, a, b, hv, e, cell_stays hb c0, cell_stays hb c1⟩⟩
def RowZ (t : TypeId) : Prop := t = 62 ∨ t = 96
structure KZ (B g : Nat) (bv nm sp : Value) (bs : List PB) (xs : List Sp) (m₁ : Nat) (W W' : World) : Prop where
  z : SzOK W B g bv nm bs → SzOK W' B g bv nm bs
  s : 2 ≤ xs.length → SpAt W sp xs → SpAt W' sp xs
  b : ∀ (i : Nat) (c : Array Value) (t : TypeId) (fr : Nat × Nat), m₁ ≤ i → ¬ RowZ t → W.heap[i]? = some (.cells c t fr) → W'.heap[i]? = some (.cells c t fr)
structure SpI {n : Nat} (J : List (Fin n) → World → Prop) (Bd B g : Nat) (bv nm sp : Value) (bs : List PB) (xs : List Sp) (c i : Nat) (W : World) : Prop where
  j : J (finK n c) W
  z : SzOK W B g bv nm bs
  s : i = 0 ∨ 2 ≤ xs.length → SpAt W sp xs
  d : W.heap[Bd]? = some (.cells #[.pointer (some ⟨B, 0, none⟩)] 26 (0, 0))
theorem SpI.below {n : Nat} {J : List (Fin n) → World → Prop} {Bd B g : Nat} {bv nm sp : Value} {bs : List PB} {xs : List Sp} {c i Z : Nat} {W W' : World} (h : SpI J Bd B g bv nm sp bs xs c i W) (hJ : AbidesFrom Z J) (hb : Below W.heap.size W W') : SpI J Bd B g bv nm sp bs xs c i W' :=
  ⟨hJ _ W W' none h.j ⟨hb.os, hb.tape, hb.output, hb.size, fun i hi _ => hb.block i hi⟩ (fun r e => by cases e), h.z.below hb, fun q => (h.s q).below hb, row_up h.d hb⟩
def FK (bs : List PB) (k : Nat) : Nat := (catB (bs.take k)).length
theorem FK_next {bs : List PB} {k : Nat} {x : PB} (h : bs[k]? = some x) : FK bs (k + 1) = FK bs k + x.cs.length := by
  unfold FK
  rw [catB_take h, List.length_append]
theorem FK_all {bs : List PB} {k : Nat} (h : bs.length ≤ k) : FK bs k = (catB bs).length := by
  unfold FK
  rw [List.take_of_length_le h]
theorem FK_some {bs : List PB} {k p : Nat} (h : FK bs k ≤ p) (hp : p < (catB bs).length) : ∃ x, bs[k]? = some x := by
  rcases Nat.lt_or_ge k bs.length with g | g
  · exact ⟨_, List.getElem?_eq_getElem g⟩
  · rw [FK_all g] at h
    omega
theorem low_next {xs : List Sp} {i F : Nat} {s : Sp} (hp : xs.Pairwise fun a b => a.1 + a.2 < b.1) (hs : xs[i]? = some s) (hF : (F : Int) ≤ s.1 + s.2) : ∀ t ∈ xs.drop (i + 1), (F : Int) ≤ t.1 := fun t ht => by
  obtain ⟨hl, e⟩ := List.getElem?_eq_some_iff.1 hs
  obtain ⟨j, hj, rfl⟩ := List.mem_iff_getElem.1 ht
  rw [List.getElem_drop]
  rw [List.length_drop] at hj
  have := List.pairwise_iff_getElem.1 hp i (i + 1 + j) hl (by omega) (by omega)
  rw [e] at this
  omega
theorem getD_of {xs : List Sp} {i : Nat} {s : Sp} (h : xs[i]? = some s) : xs.getD i (0, 0) = s := by rw [List.getD_eq_getElem?_getD, h]; rfl
def encS (g : Nat) (bs : List PB) (xs : List Sp) (x : Fin (plc xs).length) : Array Value := #[.pointer (some ⟨g, (locB bs (plc xs)[x]).1 * 3, none⟩), .int .i64 ((locB bs (plc xs)[x]).2 : Nat)]
theorem encS_at {g : Nat} {bs : List PB} {xs : List Sp} {i k P : Nat} {s : Sp} {x : PB} (hs : xs[i]? = some s) (h0 : 0 ≤ s.1) (h1 : s.1 ≤ (P : Int)) (h2 : (P : Int) < s.1 + s.2) (hx : bs[k]? = some x) (h3 : FK bs k ≤ P) (h4 : P < FK bs k + x.cs.length) :
    ∃ hc : (plc (xs.take i)).length + (P - s.1.toNat) < (plc xs).length, encS g bs xs ⟨_, hc⟩ = #[.pointer (some ⟨g, k * 3, none⟩), .int .i64 ((P - FK bs k : Nat) : Int)] := by
  have hl := plc_le hs
  have ha := plc_at hs (j := P - s.1.toNat) (by omega)
  refine ⟨by omega, ?_⟩
  unfold encS
  have e : (plc xs)[(plc (xs.take i)).length + (P - s.1.toNat)]'(by omega) = P := by
    have := (List.getElem?_eq_some_iff.1 ha).2
    rw [this]
    omega
  show #[Value.pointer (some ⟨g, (locB bs ((plc xs)[(plc (xs.take i)).length + (P - s.1.toNat)]'(by omega))).1 * 3, none⟩), .int .i64 ((locB bs ((plc xs)[(plc (xs.take i)).length + (P - s.1.toNat)]'(by omega))).2 : Nat)] = _
  rw [e, locB_at hx h3 h4]
  rfl

set_option maxRecDepth 100000 in
set_option maxHeartbeats 8000000 in
theorem spots1_in (n : Nat) (hn : 1 ≤ n) (l Bd Bl m₁ B g : Nat) (bv nm sp : Value) (bs : List PB) (xs : List Sp) (hg : ∀ s ∈ xs, 0 ≤ s.1 ∧ 0 ≤ s.2 ∧ s.1 + s.2 ≤ (catB bs).length) (hp : xs.Pairwise fun a b => a.1 + a.2 < b.1) (hroom : (catB bs).length ≤ 100000) (hxl : xs.length ≤ 1000000) (hNl : bs.length ≤ 1000000)
    (J Jx : List (Fin (plc xs).length) → World → Prop)
    (hY : ∀ pre x W, J pre W → pre.length < (plc xs).length → pre = finK (plc xs).length x.val → YieldAt Fence.wide (n - 1) Tryz.prog l (encS g bs xs x) W fun e W' =>
      (e = .returned (.bool true) ∧ J (pre ++ [x]) W' ∧ KZ B g bv nm sp bs xs m₁ W W') ∨ (e = .returned (.bool false) ∧ Jx (pre ++ [x]) W'))
    (W : World) (hZ : SzOK W B g bv nm bs) (hSp : SpAt W sp xs) (hJ : AbidesFrom W.heap.size J) (hBd : W.heap[Bd]? = some (.cells #[.pointer (some ⟨B, 0, none⟩)] 26 (0, 0))) (hBl : W.heap[Bl]? = some (.cells #[sp] 33 (0, 0))) (hm : m₁ ≤ Bd) (h0 : J [] W) (hmW : m₁ ≤ W.heap.size) :
    CallsIn Fence.wide n Tryz.prog 102 #[.func (.yield l) #[] #[], .pointer (some ⟨Bl, 0, none⟩), .pointer (some ⟨Bd, 0, none⟩)] W fun e W' => (∃ v, e = .returned v) ∧
      ((∃ ys, ys = List.finRange (plc xs).length ∧ J ys W') ∨ (∃ pre, pre <+: List.finRange (plc xs).length ∧ Jx pre W')) := by
  have hS := fun a b W (h1 : -1000000000000000 ≤ a ∧ a ≤ 1000000000000000) (h2 : -1000000000000000 ≤ b ∧ b ≤ 1000000000000000) => csize_any a b W h1 h2
  obtain ⟨M, hM⟩ : ∃ M, xs.length = M := ⟨_, rfl⟩
  obtain ⟨N, hN⟩ : ∃ N, bs.length = N := ⟨_, rfl⟩
  obtain ⟨sa, sc, hsv⟩ : ∃ sa sc, sp = .slice sa M sc := by obtain ⟨a, c, h, _⟩ := hSp; exact ⟨a, c, by rw [← hM]; exact h⟩
  have d0 := box_cell hBl 0
  rw [hsv] at d0
  have HI : RowKit.Hid (SpI J Bd B g bv nm sp bs xs (plc (xs.take 0)).length 0 W) := Lib.hid ⟨h0, hZ, fun _ => hSp, hBd⟩
  have HS := Lib.hid hS
  have HM := Lib.hid hM
  have HN := Lib.hid hN
  have HG := Lib.hid (And.intro hg (And.intro hp hroom))
  have HJ := Lib.hid hJ
  have HY := Lib.hid hY
  have HSV := Lib.hid hsv
  rw [hM] at hxl
  rw [hN] at hNl
  clear hS hM hN hg hp hroom hJ hY hZ hSp hBd hBl h0 hsv
  refine callsIn_of_wp Tryz.func102 rfl trivial ?_ rfl
  simp only [Tryz.ntmps102, List.size_toArray, List.length_cons, List.length_nil, Nat.reduceAdd, Nat.reduceSub, Array.replicate_succ, Array.replicate_zero, List.push_toArray, List.append_toArray, List.nil_append, List.cons_append]
  gi_wp2
  clear d0
  gi_loopw [4, 5, 11] (fun kv fr ix wr => ∃ i kk F : Nat, ix = .int .i64 i ∧ kv = .int .i64 kk ∧ fr = .int .i64 F ∧ i ≤ M ∧ W.heap.size ≤ wr.heap.size ∧ RowKit.Hid (FK bs kk = F ∧ (∀ s ∈ xs.drop i, (F : Int) ≤ s.1) ∧ SpI J Bd B g bv nm sp bs xs (plc (xs.take i)).length i wr)) (fun _ _ ix _ => M - (intOf ix).toNat)
  case atStart => exact ⟨0, 0, 0, rfl, rfl, rfl, Nat.zero_le _, Nat.le_refl _, Lib.hid ⟨rfl, fun s hs => (HG.out.1 s (by simpa using hs)).1, HI.out⟩⟩
  case round =>
    obtain ⟨i, kk, F, rfl, rfl, rfl, hi, hWr, hI⟩ := hrel
    rcases Nat.lt_or_ge i M with hlt | hge
    · have hxi : i < xs.length := by rw [HM.out]; exact hlt
      obtain ⟨s, hs⟩ : ∃ s, xs[i]? = some s := ⟨_, List.getElem?_eq_getElem hxi⟩
      obtain ⟨hF, hlow, hSI⟩ := hI.out
      obtain ⟨b, off, cap', hv, hc0, hc1⟩ := (hSI.s (by omega)).at hxi
      rw [getD_of hs] at hc0 hc1
      rw [HM.out] at hv
      have hv2 := HSV.out.symm.trans hv
      cases hv2
      obtain ⟨hs0, hs1, hs2⟩ := HG.out.1 s (List.mem_of_getElem? hs)
      have hFs : (F : Int) ≤ s.1 := hlow s (by rw [List.drop_eq_getElem_cons hxi, (List.getElem?_eq_some_iff.1 hs).2]; exact List.mem_cons_self ..)
      obtain ⟨a, ha⟩ : ∃ a : Nat, s.1 = (a : Int) := ⟨s.1.toNat, by omega⟩
      obtain ⟨m, hm'⟩ : ∃ m : Nat, s.2 = (m : Int) := ⟨s.2.toNat, by omega⟩
      have hCl := HG.out.2.2
      have hlen := plc_take hs
      have hlow2 := fun (F2 : Nat) (h : (F2 : Int) ≤ s.1 + s.2) => low_next (F := F2) HG.out.2.1 hs h
      rw [ha, hm'] at hlow2
      rw [ha] at hc0 hFs
      rw [hm'] at hc1
      rw [ha, hm'] at hs2
      obtain ⟨E, hE⟩ : ∃ E, a + m = E := ⟨_, rfl⟩
      have hwE : IntKind.i64.wrap ((a : Int) + (m : Int)) = ((E : Nat) : Int) := by rw [← hE]; exact (IntWalk.i64_in _ (by omega)).trans (by push_cast; rfl)
      have hi0 : (0 : Int) ≤ (i : Int) ∧ (i : Int) < (M : Int) := ⟨by omega, by omega⟩
      have hFa : F ≤ a := by omega
      have hEt : E ≤ (catB bs).length := by omega
      have hEl : E ≤ 100000 := by omega
      have HSB := Lib.hid (hSI.below HJ.out ((Below.refl _ wr).alloc (Nat.le_refl _) (.cells #[.int .i64 (a : Int), .int .i64 (m : Int)] 73)))
      have HBx := Lib.hid (heap_new wr (.cells #[.int .i64 (a : Int), .int .i64 (m : Int)] 73))
      have HX := Lib.hid (And.intro hs (And.intro ha (And.intro hm' (And.intro hlen hlow2))))
      have hBm : m₁ ≤ wr.heap.size := Nat.le_trans hmW hWr
      have HBM := Lib.hid (And.intro hBm (And.intro hWr hF))
      clear hs ha hm' hlen hlow2 hSI hI hlow hF hs0 hs1 hs2 hCl hFs hv hxi hBm
      gi_wp2
      clear hc0 hc1 hi0
      obtain ⟨Bs, hBs⟩ : ∃ z, wr.heap.size = z := ⟨_, rfl⟩
      rw [hBs] at HBx HBM ⊢
      have hwb : Bs + 1 = (wr.alloc (.cells #[.int .i64 (a : Int), .int .i64 (m : Int)] 73)).heap.size := by rw [← hBs]; simp
      generalize wr.alloc (.cells #[.int .i64 (a : Int), .int .i64 (m : Int)] 73) = wb at HSB HBx hwb ⊢
      gi_loopw [4, 5, 8] (fun kv fr pv wp => ∃ kk F P : Nat, kv = .int .i64 kk ∧ fr = .int .i64 F ∧ pv = .int .i64 P ∧ a ≤ P ∧ P ≤ E ∧ F ≤ P ∧ RowKit.Hid (FK bs kk = F ∧ SpI J Bd B g bv nm sp bs xs ((plc (xs.take i)).length + (P - a)) (i + 1) wp ∧ wp.heap[Bs]? = some (.cells #[.int .i64 (a : Int), .int .i64 (m : Int)] 73 (0, 0)))) (fun _ _ pv _ => E - (intOf pv).toNat)
      case atStart => exact ⟨kk, F, a, rfl, rfl, rfl, Nat.le_refl _, by omega, hFa, Lib.hid ⟨HBM.out.2.2, by rw [Nat.sub_self]; exact ⟨HSB.out.j, HSB.out.z, fun h => HSB.out.s (.inr (by omega)), HSB.out.d⟩, HBx.out⟩⟩
      case round =>
        rename World => wp
        clear HSB HBx hFa hwb
        obtain ⟨kk, F, P, rfl, rfl, rfl, haP, hPE, hFP, hI⟩ := hrel
        rcases Nat.lt_or_ge P E with hlt2 | hge2
        · have hb := hI.out.2.2
          have s0 := box_cell hb 0
          have s1 := box_cell hb 1
          clear hb
          gi_wp2
          clear s0 s1
          gi_loopw [4, 5] (fun kv fr wq => ∃ kk F : Nat, kv = .int .i64 kk ∧ fr = .int .i64 F ∧ F ≤ P ∧ RowKit.Hid (FK bs kk = F ∧ SpI J Bd B g bv nm sp bs xs ((plc (xs.take i)).length + (P - a)) (i + 1) wq ∧ wq.heap[Bs]? = some (.cells #[.int .i64 (a : Int), .int .i64 (m : Int)] 73 (0, 0)))) (fun kv _ _ => N - (intOf kv).toNat)
          case atStart => exact ⟨kk, F, rfl, rfl, hFP, hI⟩
          case round =>
            rename World => wq
            clear hI hFP
            obtain ⟨kk, F, rfl, rfl, hFP, hI⟩ := hrel
            obtain ⟨x, hx⟩ := FK_some (bs := bs) (k := kk) (p := P) (by rw [hI.out.1]; exact hFP) (by omega)
            have hkN : kk < N := by rw [← HN.out]; exact (List.getElem?_eq_some_iff.1 hx).1
            have hF2 := FK_next hx
            rw [hI.out.1] at hF2
            have hF2l : FK bs (kk + 1) ≤ (catB bs).length := by
              have := catB_le hx
              rw [hF2]
              have h1 := hI.out.1
              unfold FK at h1
              omega
            have hCl := HG.out.2.2
            obtain ⟨F2, hF2'⟩ : ∃ z, FK bs (kk + 1) = z := ⟨_, rfl⟩
            rw [hF2'] at hF2 hF2l
            obtain ⟨cap, L, G, hbv, hLG, c0, c1⟩ := hI.out.2.1.z.size kk x hx
            rw [HN.out] at hbv
            have hws : IntKind.i64.wrap ((F : Int) + ((L : Int) + (G : Int))) = ((F2 : Nat) : Int) := by rw [hF2, ← hLG]; exact (IntWalk.i64_in _ (by omega)).trans (by push_cast; rfl)
            have hk0 : (0 : Int) ≤ (kk : Int) ∧ (kk : Int) < (N : Int) := ⟨by omega, by omega⟩
            have hS' := fun W => HS.out (L : Int) (G : Int) W (by omega) (by omega)
            have HS' := Lib.hid hS'
            have HF2 := Lib.hid (And.intro hF2' (And.intro hF2 (And.intro hLG hx)))
            have hB1 := hI.out.2.1.z.box
            have y0 : wq.cell? ⟨B, 0, none⟩ = some (.slice (some ⟨g, 0, none⟩) N cap) := by rw [box_cell hB1 0, hbv]; rfl
            have y1 := box_cell hI.out.2.1.d 0
            clear hbv hB1 hF2 hF2' hF2l hLG hx hCl hS'
            rcases Nat.lt_or_ge P F2 with hlt3 | hge3
            · as_aux_lemma =>
                have hnle : ¬ F2 ≤ P := by omega
                obtain ⟨hc, henc⟩ := encS_at (g := g) (P := P) HX.out.1 (by rw [HX.out.2.1]; omega) (by rw [HX.out.2.1]; omega) (by rw [HX.out.2.1, HX.out.2.2.1]; omega) HF2.out.2.2.2 (by rw [hI.out.1]; exact hFP) (by rw [hI.out.1]; have := HF2.out.2.1; omega)
                have hat : (P - s.1.toNat) = P - a := by rw [HX.out.2.1]; rfl
                rw [hI.out.1] at henc
                obtain ⟨c, hcc⟩ : ∃ c, (plc (xs.take i)).length + (P - a) = c := ⟨_, rfl⟩
                have hc9 : c < (plc xs).length := by rw [hat, hcc] at hc; exact hc
                have henc9 : encS g bs xs ⟨c, hc9⟩ = #[.pointer (some ⟨g, kk * 3, none⟩), .int .i64 ((P - F : Nat) : Int)] := by rw [← henc]; congr 1; apply Fin.ext; show c = (plc (xs.take i)).length + (P - s.1.toNat); omega
                have hnx := finK_next (plc xs).length c hc9
                have hws2 : IntKind.i64.wrap ((P : Int) - (F : Int)) = ((P - F : Nat) : Int) := by
                  have := HG.out.2.2
                  exact (IntWalk.i64_in _ (by omega)).trans (by omega)
                rw [hcc] at hI
                have HN9 := Lib.hid (And.intro hnx hcc)
                have HE9 := Lib.hid henc9
                clear hc henc hat hcc henc9 hnx
                gi_wp2_with (refine ⟨trivial, ?_⟩; gi_at_call 47; refine (callsIn_wide.2 (HS'.out _)).mono ?_; rintro e w4 ⟨rfl, hb4⟩; have c0 := cell_stays hb4 c0; have c1 := cell_stays hb4 c1; have y0 := cell_stays hb4 y0; have y1 := cell_stays hb4 y1; have hI := Lib.hid (And.intro hI.out.1 (And.intro (hI.out.2.1.below HJ.out hb4) (row_up hI.out.2.2 hb4))); clear hb4)
                obtain ⟨fn, tmps, assign, body, hy, hRnd⟩ := HY.out (finK (plc xs).length c) ⟨c, hc9⟩ _ hI.out.2.1.j (by rw [finK_length _ _ (Nat.le_of_lt hc9)]; exact hc9) rfl
                rw [HE9.out] at hy
                rw [hy]
                gi_wp2
                refine hRnd.mono ?_
                clear hy hRnd
                have hbS := hI.out.2.2
                have hdS := hI.out.2.1
                rintro e W9 (⟨rfl, hJ9, hk9⟩ | ⟨rfl, hJx9⟩)
                · have r0 := hk9.b _ _ _ _ HBM.out.1 (by unfold RowZ; decide) hbS
                  have r1 := hk9.b _ _ _ _ hm (by unfold RowZ; decide) hdS.d
                  have r2 := hk9.z hdS.z
                  have r3 : i + 1 = 0 ∨ 2 ≤ xs.length → SpAt W9 sp xs := fun h => by
                    rcases h with h | h
                    · omega
                    · exact hk9.s h (hdS.s (.inr h))
                  rw [← HN9.out.1] at hJ9
                  have HI9 := Lib.hid (And.intro hI.out.1 (And.intro (SpI.mk hJ9 r2 r3 r1) r0))
                  clear r0 r1 r2 r3 hJ9 hk9 hbS hdS
                  gi_wp2
                  go_roundw
                  case rel =>
                    obtain ⟨h1, h2, h3⟩ := HI9.out
                    have e : (plc (xs.take i)).length + (P + 1 - a) = c + 1 := by have := HN9.out.2; omega
                    refine ⟨kk, F, P + 1, rfl, rfl, by go_num, by omega, by omega, by omega, Lib.hid ⟨h1, by rw [e]; exact h2, h3⟩⟩
                  case measure => simp [intOf]; omega
                · clear hbS hdS
                  gi_wp2
                  refine bodyPost_ret (results_none rfl _ _ _) rfl ?_
                  refine ⟨⟨_, rfl⟩, .inr ⟨_, ?_, hJx9⟩⟩
                  rw [← HN9.out.1]
                  exact finK_pre _ _
            · as_aux_lemma =>
                gi_wp2_with (refine ⟨trivial, ?_⟩; gi_at_call 47; refine (callsIn_wide.2 (HS'.out _)).mono ?_; rintro e w4 ⟨rfl, hb4⟩; have c0 := cell_stays hb4 c0; have c1 := cell_stays hb4 c1; have y0 := cell_stays hb4 y0; have y1 := cell_stays hb4 y1; have hI := Lib.hid (And.intro hI.out.1 (And.intro (hI.out.2.1.below HJ.out hb4) (row_up hI.out.2.2 hb4))); clear hb4)
                exact ⟨⟨kk + 1, F2, by go_num, rfl, hge3, Lib.hid ⟨HF2.out.1, hI.out.2⟩⟩, by simp [intOf]; omega⟩
        · obtain rfl : P = E := by omega
          have hb := hI.out.2.2
          have s0 := box_cell hb 0
          have s1 := box_cell hb 1
          clear hb
          gi_wp2
          go_roundw
          case rel =>
            obtain ⟨h1, h2, h3⟩ := hI.out
            refine ⟨i + 1, kk, F, by go_num, rfl, rfl, by omega, ?_, Lib.hid ⟨h1, HX.out.2.2.2.2 F (by omega), ?_⟩⟩
            · have := box_lt h3
              have := HBM.out.2.1
              omega
            · have e : (plc (xs.take (i + 1))).length = (plc (xs.take i)).length + (P - a) := by rw [HX.out.2.2.2.1, List.length_append, spR_length, HX.out.2.2.1]; omega
              rw [e]
              exact h2
          case measure => simp [intOf]; omega
    · obtain rfl : M = i := by omega
      have hall : plc (xs.take M) = plc xs := by rw [List.take_of_length_le (by rw [HM.out]; exact Nat.le_refl _)]
      have hJ9 := hI.out.2.2.j
      rw [hall, finK_all] at hJ9
      have HJ9 := Lib.hid hJ9
      clear hJ9 hI hall
      gi_wp2
      go_end0
      exact ⟨⟨_, rfl⟩, .inl ⟨_, rfl, HJ9.out⟩⟩
theorem spots_stops (n : Nat) (hn : 1 ≤ n) (Bd Bl m₁ B g : Nat) (bv nm sp : Value) (bs : List PB) (xs : List Sp) (hg : ∀ s ∈ xs, 0 ≤ s.1 ∧ 0 ≤ s.2 ∧ s.1 + s.2 ≤ (catB bs).length) (hp : xs.Pairwise fun a b => a.1 + a.2 < b.1) (hroom : (catB bs).length ≤ 100000) (hxl : xs.length ≤ 1000000) (hNl : bs.length ≤ 1000000)
    (w : World) (hZ : SzOK w B g bv nm bs) (hSp : SpAt w sp xs) (hBd : w.heap[Bd]? = some (.cells #[.pointer (some ⟨B, 0, none⟩)] 26 (0, 0))) (hBl : w.heap[Bl]? = some (.cells #[sp] 33 (0, 0))) (hm : m₁ ≤ Bd) (hmw : m₁ ≤ w.heap.size) :
    SeqStopsL RowZ Fence.wide n Tryz.prog 102 #[.pointer (some ⟨Bl, 0, none⟩), .pointer (some ⟨Bd, 0, none⟩)] (encS g bs xs) (KZ B g bv nm sp bs xs m₁) (fun ys => ys = List.finRange (plc xs).length) (fun pre => pre <+: List.finRange (plc xs).length) (plc xs).length (fun pre x => pre = finK (plc xs).length x.val) w := fun l J Jx W hW hW2 hJ _ hY h0 =>
  spots1_in n hn l Bd Bl m₁ B g bv nm sp bs xs hg hp hroom hxl hNl J Jx (fun pre x W1 h1 h2 h3 => by
    obtain ⟨fn, tmps, assign, body, hy, hr⟩ := hY pre x W1 h1 h2 h3
    exact ⟨fn, tmps, assign, body, hy, hr.mono fun e W' h => h.elim (fun q => .inl ⟨q.1, q.2.1, q.2.2.1⟩) (fun q => .inr ⟨q.1, q.2.1⟩)⟩) W (hZ.below hW) (hSp.below hW) (fun s A C row hs hg hr => hJ s A C row hs hg (fun r e => by obtain ⟨q1, o, q2, q3⟩ := hr r e; exact ⟨q1, o, q2, .inl (Obj.not_cells_of_walk q3)⟩)) (row_up hBd hW) (row_up hBl hW) hm h0 (by omega)
set_option maxHeartbeats 1000000 in
theorem spots_any (p : Option Addr) (sa : Option Addr) (sn sc : Nat) (w : World) :
    Calls Tryz.prog 89 #[.pointer p, .slice sa sn sc] w fun e w' => e = .returned (.func (.func 102) #[] #[.pointer (some ⟨w.heap.size + 1, 0, none⟩), .pointer (some ⟨w.heap.size, 0, none⟩)]) ∧ w' = (w.alloc (.cells #[.pointer p] 26)).alloc (.cells #[.slice sa sn sc] 33) := by
  go_enter Tryz.func89, Tryz.ntmps89
  go_wp2
  go_ret
  exact ⟨rfl, rfl⟩
end Go.Proofs.YtfoglciiefoodaaGreatDoor

namespace Go.Proofs.YtfoglciiefoodaaGreatDoor
open Go.RowKit Go.Shelf
attribute [local go_sem] Oper.semAt_some

theorem set_five (A t : List Value) (a : Nat) (x0 x1 x2 x3 x4 : Value) (ha : A.length = a) (ht : 5 ≤ t.length) : (((((A ++ t).set a x0).set (a + 1) x1).set (a + 2) x2).set (a + 3) x3).set (a + 4) x4 = A ++ [x0, x1, x2, x3, x4] ++ t.drop 5 := by
  match t, ht with
  | t0 :: t1 :: t2 :: t3 :: t4 :: r, _ =>
    subst ha
    rw [List.set_append_right _ _ (Nat.le_refl _), List.set_append_right _ _ (by omega), List.set_append_right _ _ (by omega), List.set_append_right _ _ (by omega), List.set_append_right _ _ (by omega)]
    rw [Nat.sub_self, show A.length + 1 - A.length = 1 by omega, show A.length + 2 - A.length = 2 by omega, show A.length + 3 - A.length = 3 by omega, show A.length + 4 - A.length = 4 by omega]
    simp
theorem make_cellsN (n : Nat) (hn : n ≤ 1000000) : ∃ cur : Array Value, cur.size = n * 5 ∧ ∀ W : World, (Instr.makeSlice 22 (.int .i64 (n : Int)) (.int .i64 (n : Int))).run Tryz.prog W = .ok (.slice (some ⟨W.heap.size, 0, none⟩) n n) (W.alloc (.cells cur 62)) := by
  obtain ⟨i0, hi, hz0, hz1, hz2⟩ := infoCellI
  refine ⟨madeCells (Value.agg #[.int .i64 0, .int .i64 0, .int .i64 0, .int .i32 0, .bool false]).cells (n * 5), ?_, fun W => ?_⟩
  · simp [madeCells]
  · have h := run_make (P := Tryz.prog) (w := W) 22 62 i0 _ Tryz.underlying22 hi hz0 .i64 .i64 n n (by omega) (by omega) (by rw [hz2]; omega) (by omega)
    rw [Int.toNat_natCast, hz1] at h
    exact h
def newR (s q : Int) (rs : List Int) : List PCell := rs.mapIdx fun i r => ⟨s, q, i, r, false⟩
theorem newR_length (s q : Int) (rs : List Int) : (newR s q rs).length = rs.length := by simp [newR]
theorem newR_next {s q : Int} {rs : List Int} {k : Nat} {r : Int} (h : rs[k]? = some r) : (newR s q rs).take (k + 1) = (newR s q rs).take k ++ [⟨s, q, (k : Int), r, false⟩] := by
  rw [List.take_add_one]
  congr 1
  unfold newR
  rw [List.getElem?_mapIdx, h]
  rfl
set_option maxRecDepth 100000 in
set_option maxHeartbeats 8000000 in
theorem cellsOf_any (s q n k a : Int) (t : ByteArray) (sp : Value) (rs : List Int) (w : World) (hT : Lib.Utf8Tabs 0 1 w) (hts : t.size ≤ 1000) (hr : runesL t.data.toList = some rs) (hrl : rs.length ≤ 1000) (hsp : ∃ ao c d, sp = .slice ao c d) :
    Calls Tryz.prog 59 #[opV s q n k a t sp] w fun e w' => ∃ v, e = .returned v ∧ w'.ownsRow w.heap.size 62 5 v (newR s q rs).length (cCells (newR s q rs)) ∧ Below w.heap.size w w' := by
  obtain ⟨sa, sn, sc, rfl⟩ := hsp
  unfold opV
  have A0 := heap_new w (.cells #[.int .i64 s, .int .i64 q, .int .i64 n, .int .i64 k, .int .i64 a, .string t, .slice sa sn sc] 35)
  have AB : Below w.heap.size w (w.alloc (.cells #[.int .i64 s, .int .i64 q, .int .i64 n, .int .i64 k, .int .i64 a, .string t, .slice sa sn sc] 35)) := (Below.refl _ w).alloc (Nat.le_refl _) _
  have hS := split_some t (by omega) _ (⟨fun c hc => cell_stays AB (hT.1 c hc), fun i hi => ⟨cell_stays AB (hT.2 i hi).1, cell_stays AB (hT.2 i hi).2⟩⟩ : Lib.Utf8Tabs 0 1 _) rs hr
  have HS := Lib.hid hS
  have HA := Lib.hid (And.intro A0 AB)
  obtain ⟨N, hN⟩ : ∃ N, rs.length = N := ⟨_, rfl⟩
  have HN := Lib.hid hN
  rw [hN] at hrl
  obtain ⟨cur, hcur, hmk⟩ := make_cellsN N (by omega)
  have hcl : (0 : Int) ≤ (N : Int) ∧ (N : Int) ≤ 1000 := by omega
  clear A0 AB hS hT hr hN
  rw [newR_length, HN.out]
  go_enter Tryz.func59, Tryz.ntmps59
  go_wp2_with fail
  refine HS.out.mono ?_
  rintro e w1 ⟨rv, rfl, hro, hb1⟩
  obtain ⟨ra, rn, rc, rfl⟩ := slice_of hro
  obtain rfl : rn = rs.length := by rcases hro.2 with ⟨e, h0⟩ | ⟨_, _, _, e, _⟩ <;> cases e <;> first | rfl | omega
  have hx1 := row_up HA.out.1 hb1
  have hB1 : Below w.heap.size w w1 := HA.out.2.trans (hb1.mono HA.out.2.size)
  have ho : (w1.alloc (.cells cur 62)).ownsRow w.heap.size 62 5 (.slice (some ⟨w1.heap.size, 0, none⟩) N N) N (cCells ((newR s q rs).take 0) ++ cur.toList) := by
    refine ⟨by rw [List.take_zero]; show ([] ++ cur.toList).length = _; simp [hcur], .inr ⟨w1.heap.size, N, cur, rfl, hB1.size, heap_new w1 _, Nat.le_refl _, by unfold maxLen; omega, hcur, ?_⟩⟩
    rw [List.take_zero, List.take_of_length_le (by rw [Array.length_toList, hcur]; exact Nat.le_refl _)]
    rfl
  have hru := own_up hro ((Below.refl _ w1).alloc (Nat.le_refl _) (.cells cur 62))
  have hx2 := row_al hx1 (.cells cur 62)
  have hB2 : Below w.heap.size w (w1.alloc (.cells cur 62)) := hB1.alloc hB1.size _
  have hlt1 := box_lt hx1
  have hgA : ∀ g, (Value.slice ra rs.length rc).ownBlock = some g → ¬ g = w1.heap.size := fun g hg e => by obtain ⟨_, c, h⟩ := own_typed hro g hg; have := box_lt h; omega
  have hAw : w.heap.size ≤ w1.heap.size := hB1.size
  have hs2 : (w1.alloc (.cells cur 62)).heap.size = w1.heap.size + 1 := by simp
  rw [HN.out] at hru hgA ⊢
  obtain ⟨tl, htl⟩ : ∃ tl, cur.toList = tl := ⟨_, rfl⟩
  have htll : tl.length = (N - 0) * 5 := by rw [← htl]; simp [hcur]
  rw [htl] at ho
  have HH := Lib.hid (And.intro hru (And.intro hx2 (And.intro hB2 (And.intro hgA (And.intro htll ho)))))
  clear ho hro hb1 hx1 hB1 HS hru hx2 hB2 hgA htll htl hcur
  go_wp2
  generalize w1.alloc (.cells cur 62) = w2 at HH hs2 ⊢
  obtain ⟨A, hA⟩ : ∃ A, w1.heap.size = A := ⟨_, rfl⟩
  rw [hA] at HH hs2 hlt1 hAw ⊢
  clear hA
  have h0 : w2.heap[w.heap.size]? = some (.cells #[.int .i64 s, .int .i64 q, .int .i64 n, .int .i64 k, .int .i64 a, .string t, .slice sa sn sc] 35 (0, 0)) ∧ (∃ tl : List Value, tl.length = (N - 0) * 5 ∧ w2.ownsRow w.heap.size 62 5 (.slice (some ⟨A, 0, none⟩) N N) N (cCells ((newR s q rs).take 0) ++ tl)) ∧ Below w.heap.size w w2 ∧ Keep (fun j => j = A) w2.heap.size w2 w2 := ⟨HH.out.2.1, ⟨tl, HH.out.2.2.2.2.1, HH.out.2.2.2.2.2⟩, HH.out.2.2.1, Keep.refl _ _ _⟩
  have H0 := Lib.hid h0
  clear h0
  go_loopw [19] (fun i wr => ∃ e : Nat, e ≤ N ∧ i = .int .i64 e ∧ RowKit.Hid (wr.heap[w.heap.size]? = some (.cells #[.int .i64 s, .int .i64 q, .int .i64 n, .int .i64 k, .int .i64 a, .string t, .slice sa sn sc] 35 (0, 0)) ∧ (∃ tl : List Value, tl.length = (N - e) * 5 ∧ wr.ownsRow w.heap.size 62 5 (.slice (some ⟨A, 0, none⟩) N N) N (cCells ((newR s q rs).take e) ++ tl)) ∧ Below w.heap.size w wr ∧ Keep (fun j => j = A) w2.heap.size w2 wr)) (fun i _ => N - (intOf i).toNat)
  case atStart => exact ⟨0, Nat.zero_le _, rfl, H0⟩
  case round =>
    rename World => wr
    obtain ⟨e, he, rfl, hI⟩ := hrel
    rcases Nat.lt_or_ge e N with hlt | hge
    · obtain ⟨r, hr⟩ : ∃ r, rs[e]? = some r := ⟨_, List.getElem?_eq_getElem (by rw [HN.out]; exact hlt)⟩
      obtain ⟨b0, ⟨tl, htl, ho⟩, hB, hK⟩ := hI.out
      have hru := own_keepS HH.out.1 hK HH.out.2.2.2.1
      obtain ⟨g, cp, hgv, -, -⟩ := ownsRow_form hru (by omega)
      cases hgv
      have hrc := hru.cells rfl e (.int .i32 r) (by rw [List.getElem?_map, hr]; rfl)
      rw [Addr.add_lit, Nat.zero_add] at hrc
      have z0 := box_cell b0 0
      have z1 := box_cell b0 1
      have hct : (cCells ((newR s q rs).take e)).length = e * 5 := by rw [cCells_length, List.length_take, newR_length, HN.out]; congr 1; omega
      obtain ⟨t0, t1, t2, t3, t4, tr, rfl⟩ : ∃ t0 t1 t2 t3 t4 tr, tl = t0 :: t1 :: t2 :: t3 :: t4 :: tr := by
        match tl, (show 5 ≤ tl.length by omega) with
        | t0 :: t1 :: t2 :: t3 :: t4 :: r, _ => exact ⟨_, _, _, _, _, _, rfl⟩
      have hcc := ho.cells rfl
      have ex : ∀ j (v : Value), (t0 :: t1 :: t2 :: t3 :: t4 :: tr)[j]? = some v → wr.cell? ⟨A, e * 5 + j, none⟩ = some v := fun j v hj => by
        have := hcc (e * 5 + j) v (by rw [List.getElem?_append_right (by omega), hct, show e * 5 + j - e * 5 = j by omega]; exact hj)
        rw [Addr.add_lit, Nat.zero_add] at this
        exact this
      have y0 := ex 0 _ rfl
      have y1 := ex 1 _ rfl
      have y2 := ex 2 _ rfl
      have y3 := ex 3 _ rfl
      have y4 := ex 4 _ rfl
      rw [Nat.add_zero] at y0
      have f0 := ho.frozenAt (e * 5)
      have f1 := ho.frozenAt (e * 5 + 1)
      have f2 := ho.frozenAt (e * 5 + 2)
      have f3 := ho.frozenAt (e * 5 + 3)
      have f4 := ho.frozenAt (e * 5 + 4)
      have hst := (((((ho.stored (e * 5) (.int .i64 s)).1.stored (e * 5 + 1) (.int .i64 q)).1.stored (e * 5 + 2) (.int .i64 (e : Int))).1.stored (e * 5 + 3) (.int .i32 r)).1.stored (e * 5 + 4) (.bool false)).1
      rw [set_five _ _ (e * 5) _ _ _ _ _ hct (by simp)] at hst
      have hw : w.heap.size ≠ A := by omega
      have HF := Lib.hid (And.intro hst (And.intro b0 (And.intro hB (And.intro hK htl))))
      have HX := Lib.hid (newR_next (s := s) (q := q) hr)
      have hi0 : (0 : Int) ≤ (e : Int) ∧ (e : Int) < (N : Int) := ⟨by omega, by omega⟩
      clear hr b0 ho hB hK hru hct hcc ex hst hI htl
      go_wp2
      go_roundw
      case rel =>
        obtain ⟨hst, b0, hB, hK, htl⟩ := HF.out
        refine ⟨e + 1, by omega, by go_num, Lib.hid ⟨?_, ⟨tr, ?_, ?_⟩, ?_, ?_⟩⟩
        · exact (box_other hw _ _).trans ((box_other hw _ _).trans ((box_other hw _ _).trans ((box_other hw _ _).trans ((box_other hw _ _).trans b0))))
        · simp only [List.length_cons] at htl
          omega
        · rw [HX.out, cCells_append]
          exact hst
        · exact ((((hB.setCell (p := ⟨A, e * 5, none⟩) hAw _).setCell (p := ⟨A, e * 5 + 1, none⟩) hAw _).setCell (p := ⟨A, e * 5 + 2, none⟩) hAw _).setCell (p := ⟨A, e * 5 + 3, none⟩) hAw _).setCell (p := ⟨A, e * 5 + 4, none⟩) hAw _
        · exact ((((hK.setCell (p := ⟨A, e * 5, none⟩) (.inl rfl) _).setCell (p := ⟨A, e * 5 + 1, none⟩) (.inl rfl) _).setCell (p := ⟨A, e * 5 + 2, none⟩) (.inl rfl) _).setCell (p := ⟨A, e * 5 + 3, none⟩) (.inl rfl) _).setCell (p := ⟨A, e * 5 + 4, none⟩) (.inl rfl) _
      case measure => simp [intOf]; omega
    · obtain rfl : N = e := by omega
      obtain ⟨b0, ⟨tl, htl, ho⟩, hB, hK⟩ := hI.out
      obtain rfl : tl = [] := List.eq_nil_of_length_eq_zero (by omega)
      rw [List.append_nil, List.take_of_length_le (by rw [newR_length, HN.out]; exact Nat.le_refl _)] at ho
      have HF := Lib.hid (And.intro ho hB)
      clear b0 ho hB hK hI htl
      go_wp2
      go_ret
      exact ⟨_, rfl, HF.out.1, HF.out.2⟩
end Go.Proofs.YtfoglciiefoodaaGreatDoor
