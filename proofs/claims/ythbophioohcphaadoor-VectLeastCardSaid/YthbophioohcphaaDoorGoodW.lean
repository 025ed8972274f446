/- The library's variables that a name's text and its reading want; Itoa and Atoi. -/
import Derived.Test.YthbophioohcphaaDoorAtoiPlain
import Derived.Test.YthbophioohcphaaDoorShelf
import Derived.Test.YthbophioohcphaaDoorRefMade
namespace Go.Proofs.YthbophioohcphaaDoor
open Go.RowKit

/-- The powers of ten, and the two errors, lie where the library keeps them. -/
def GoodW (w : World) : Prop :=
  Lib.TabIs Tryd.prog w "internal/strconv.uint64pow10" .u64 Lib.pow10Tab ∧ (∃ tp p, w.var? Tryd.prog "strconv.ErrSyntax" = some #[.iface tp p]) ∧ ∃ tp p, w.var? Tryd.prog "strconv.ErrRange" = some #[.iface tp p]
theorem var_below {name : String} {cs : Array Value} {g : Nat} {w w' : World} (hg : Tryd.prog.globalNamed name = some g) (h : w.var? Tryd.prog name = some cs) (hb : Below w.heap.size w w') : w'.var? Tryd.prog name = some cs := by
  unfold World.var? at h ⊢
  rw [hg] at h ⊢
  simp only [Option.bind_some] at h ⊢
  have hlt : g < w.heap.size := by
    rcases Nat.lt_or_ge g w.heap.size with h' | h'
    · exact h'
    · rw [Array.getElem?_eq_none h'] at h; cases h
  rw [hb.block g hlt]
  exact h
theorem gPow : Tryd.prog.globalNamed "internal/strconv.uint64pow10" = some 3 := by kernel_rfl
theorem gSyntax : Tryd.prog.globalNamed "strconv.ErrSyntax" = some 1 := by kernel_rfl
theorem gRange : Tryd.prog.globalNamed "strconv.ErrRange" = some 2 := by kernel_rfl
theorem GoodW.below {w w' : World} (h : GoodW w) (hb : Below w.heap.size w w') : GoodW w' := by
  obtain ⟨h1, ⟨t1, p1, h2⟩, t2, p2, h3⟩ := h
  exact ⟨var_below gPow h1 hb, ⟨t1, p1, var_below gSyntax h2 hb⟩, t2, p2, var_below gRange h3 hb⟩
theorem below_grow' (w : World) (k : Nat) (os : Array Obj) : Below w.heap.size w (Sort.grow (w.drewN k) os) :=
  ⟨rfl, rfl, rfl, by simp [Sort.grow, World.drewN], fun j hj => by
    show (w.heap ++ os)[j]? = w.heap[j]?
    rw [Array.getElem?_append_left hj]⟩
theorem below_bytes (w : World) (t : TypeId) (s : ByteArray) : Below w.heap.size w (Lib.bytesWorld w t s) :=
  ⟨rfl, rfl, rfl, by rw [Lib.bytesWorld_size]; omega, fun j hj => Lib.bytesWorld_at_old w t s j hj⟩
/-- Itoa, as a contract over what the world has. -/
def ItoaAt (n : Nat) (w : World) : Prop :=
  Calls Tryd.prog 34 #[.int .i64 n] w fun e w' => e = .returned (.string ⟨(Lib.decDigits n).toArray⟩) ∧ Below w.heap.size w w'
theorem itoa_small (n : Nat) (h : n < 100) (w : World) : ItoaAt n w := (Tryd.strconv_Itoa_small n h w).mono fun _ _ ⟨h1, h2⟩ => ⟨h1, by rw [h2]; exact Below.refl _ _⟩
theorem itoa_good (n : Nat) (h : n ≤ 1099511627776) (w : World) (hG : GoodW w) : ItoaAt n w := (Tryd.strconv_Itoa n (by omega) (by omega) w hG.1).mono fun _ _ ⟨h1, k, os, h2⟩ =>
  ⟨by rw [h1]; unfold Lib.itoa; rw [if_neg (by omega), Int.toNat_natCast], by rw [h2]; exact below_grow' _ _ _⟩
/-- What Atoi tells: the number, whatever the error. -/
def AtoiPost (s : ByteArray) (w : World) (e : Ending) (w' : World) : Prop := ∃ err, e = .returned (.tuple #[.int .i64 (atoiV s.data.toList), err]) ∧ Below w.heap.size w w'
theorem atoi_any (s : ByteArray) (w : World) (hG : GoodW w) (hs : s.size ≤ 1000000) : Calls Tryd.prog 37 #[.string s] w (AtoiPost s w) := by
  obtain ⟨_, ⟨t1, p1, h1⟩, t2, p2, h2⟩ := hG
  rcases h : Lib.atoiAll s.data.toList with v | _ | _
  · refine (Tryd.strconv_Atoi_ok s (by omega) v h w).mono fun e w' q => ⟨.nilIface, ?_, ?_⟩
    · rw [q.1]; unfold atoiV; rw [h]
    · rcases q.2 with g | ⟨t, g⟩
      · rw [g]; exact Below.refl _ _
      · rw [g]; exact below_bytes _ _ _
  · refine (Tryd.strconv_Atoi_syntax_var s (by omega) h t1 p1 w h1).mono fun e w' q => ?_
    obtain ⟨N, q1, _, _, q2⟩ := q
    exact ⟨_, by rw [q1]; unfold atoiV; rw [h], q2⟩
  · refine (Tryd.strconv_Atoi_range_var s (by omega) h t2 p2 w h2).mono fun e w' q => ?_
    obtain ⟨N, q1, _, _, q2⟩ := q
    exact ⟨_, by rw [q1]; unfold atoiV; rw [h], q2⟩
end Go.Proofs.YthbophioohcphaaDoor
