/- The library's variables, read from the rows' lists. -/
import Derived.Test.YthbophioohcphaaDoorGoodW
import Derived.Test.YthbophioohcphaaDoorRows
import Derived.Lib.LaidU8
namespace Go.Proofs.YthbophioohcphaaDoor
open Go.RowKit

theorem iface_cells {P : Program} {w : World} {base : Nat} {sp : Nat → Bool} {fuel : Nat} {t : TypeId} {l : List Value} {name : String} {d : DataW Unit} {p : List MemPlace} {ms : Array (String × TypeId)} (ht : P.underlying t = some (.interface ms))
    (hd : DataW.trod (fun _ => ()) P w base sp false fuel t l = some (.iface name d, p)) : ∃ u v, l = [.iface u v] := by
  cases fuel with
  | zero => simp [DataW.trod] at hd
  | succ fuel =>
    unfold DataW.trod at hd
    rw [ht] at hd
    split at hd <;> simp_all
theorem iface_of_reads {n name : String} {d : DataW Unit} {w : World} {t : TypeId} {g : Nat} {ms : Array (String × TypeId)} (hg : Tryd.prog.globalNamed n = some g) (hty : (Tryd.prog.globals[g]?).map (·.type) = some t) (ht : Tryd.prog.underlying t = some (.interface ms)) (h : Lib.VarReads Tryd.prog w n (.iface name d)) : ∃ tp p, w.var? Tryd.prog n = some #[.iface tp p] := by
  obtain ⟨g', t', cs, fuel, p, hg', hty', hvar, hd⟩ := h
  obtain rfl := Option.some.inj (hg.symm.trans hg')
  obtain rfl := Option.some.inj (hty.symm.trans hty')
  obtain ⟨u, v, hl⟩ := iface_cells ht hd
  exact ⟨u, v, hvar.trans (by rw [← Array.toArray_toList (xs := cs), hl])⟩
theorem tyPow : (Tryd.prog.globals[3]?).map (·.type) = some 92 := by kernel_rfl
theorem tySyntax : (Tryd.prog.globals[1]?).map (·.type) = some 55 := by kernel_rfl
theorem tyRange : (Tryd.prog.globals[2]?).map (·.type) = some 55 := by kernel_rfl
theorem pow_eq : (Rows.laid_internal_strconv_uint64pow10 : DataW Unit) = Lib.tabData .u64 Lib.pow10Tab := by kernel_rfl
theorem good_of_laid {W : World} (h : laidMet Tryd.prog Rows.vectNamesRow.laid W) : GoodW W := by
  have hp : Lib.VarReads Tryd.prog W "internal/strconv.uint64pow10" Rows.laid_internal_strconv_uint64pow10 := Lib.laidMet.reads h (.tail _ (.tail _ (.head _)))
  have hr : Lib.VarReads Tryd.prog W "strconv.ErrRange" Rows.laid_strconv_ErrRange := Lib.laidMet.reads h (.tail _ (.tail _ (.tail _ (.head _))))
  have hs : Lib.VarReads Tryd.prog W "strconv.ErrSyntax" Rows.laid_strconv_ErrSyntax := Lib.laidMet.reads h (.tail _ (.tail _ (.tail _ (.tail _ (.head _)))))
  refine ⟨?_, iface_of_reads gSyntax tySyntax Tryd.underlying55 hs, iface_of_reads gRange tyRange Tryd.underlying55 hr⟩
  rw [pow_eq] at hp
  obtain ⟨g', t', cs, fuel, p, hg', hty', hvar, hd⟩ := hp
  obtain rfl := Option.some.inj (gPow.symm.trans hg')
  obtain rfl := Option.some.inj (tyPow.symm.trans hty')
  have hcs := Lib.cells_of_tab Tryd.underlying92 Tryd.underlying77 (by kernel_rfl) (by kernel_rfl) hd
  unfold Lib.TabIs
  rw [hvar, ← hcs]
end Go.Proofs.YthbophioohcphaaDoor
