/- A region that draws its order, inside a fence that holds nothing back, in a round of a range over a function too: by the walk outside of fences. Nothing of a program's own text. -/
import Derived.Test.YtmedickofiielaaGReads64
import Derived.Deep.RegionHeld
import Derived.OrdersIn
import Derived.RangeFuncBox
namespace Go.Proofs.Ytmedickofiielaa
open Go

def wideAt (ro : Option Nat) : Fence := { Fence.wide with round := ro }
theorem oper_bridge {P : Program} {ro : Option Nat} {n : Nat} {o : Oper} {a : Act} {w : World} {K : Act → World → Prop} {Q : Exit → Act → World → Prop} (hd : ∀ c, o.op ≠ .defer c) (h : o.wp P a w K Q) : o.wpIn (wideAt ro) n P a w K Q := by
 refine ⟨fun _ _ => trivial, ?_⟩
 show o.uponIn (wideAt ro) n P a K Q ((o.semAt ro a.eval).run P w)
 rw [Oper.semAt_eq ro a.eval o hd]
 unfold Oper.wp at h
 generalize (execOp a.eval o).run P w = r at *
 cases r with
 | ok x w' =>
  cases x with
  | value v => exact h
  | skip => exact h
  | defer d => exact h
  | enter f args => exact ⟨(fun q => by simp [wideAt, Fence.wide] at q), callsIn_wide.2 h⟩
  | row r args => exact ⟨(fun q => by simp [wideAt, Fence.wide] at q), fun c cs _ => let ⟨v, w', q, s⟩ := h c cs; ⟨v, w', q, stepsIn_wide.2 s⟩⟩
  | round l f tmps assign body => exact h.elim
  | _ => exact h.elim
 | halt x w' =>
  cases x <;> first | exact h | exact h.elim
theorem any_bridge {P : Program} {md : Region.Mode} {ops : Array Oper} {ro : Option Nat} {n : Nat} {Q : Exit → Act → World → Prop} (hd : ∀ (i : Nat) (o : Oper), ops[i]? = some o → ∀ c, o.op ≠ .defer c) (hL : ¬ LetsOut Q) :
  ∀ (fuel : Nat) (listed : Array Bool) (a : Act) (w : World), wpAny P md ops Q fuel listed a w → wpAnyIn (wideAt ro) n P md ops Q fuel listed a w
 | 0, _, _, _, h => h
 | fuel + 1, listed, a, w, h => ⟨h.1, fun i hi => by
  have q := h.2 i hi
  unfold wpOp at q
  unfold wpOpIn
  cases ho : ops[i]? with
  | none => rw [ho] at q; exact any_bridge hd hL fuel _ a w q
  | some o =>
   rw [ho] at q
   dsimp only at q ⊢
   split
   ·next hw =>
    rw [if_pos hw] at q
    rcases q with q | ⟨_, q⟩
    ·exact oper_bridge (hd i o ho) (Oper.wp_mono (fun a w z => any_bridge hd hL fuel _ a w z) q)
    ·exact absurd q hL
   ·next hw =>
    rw [if_neg hw] at q
    exact ⟨fun _ _ => trivial, any_bridge hd hL fuel _ _ w q⟩⟩
def noDefer (ops : Array Oper) : Bool := ops.all fun o => match o.op with
 | .defer _ => false
 | _ => true
theorem noDefer_at {ops : Array Oper} (h : noDefer ops = true) (i : Nat) (o : Oper) (ho : ops[i]? = some o) : ∀ c, o.op ≠ .defer c := by
 intro c e
 obtain ⟨hi, rfl⟩ := Array.getElem?_eq_some_iff.1 ho
 have := Array.all_eq_true.1 h i hi
 rw [e] at this
 cases this
theorem region_bridge {P : Program} {id : Nat} {ops : Array Oper} {ro : Option Nat} {n : Nat} {Q : Exit → Act → World → Prop} {S : World → Prop} {a : Act} {w : World} (hm : P.follows .mixedOrders = true) (hd : noDefer ops = true) (hL : ¬ LetsOut Q) (hS : S w.drew)
  (h : S w.drew → wpAnyH P .any ops Q S ops.size (Array.replicate ops.size false) a w.drew) : (Code.region id ops true).wpIn (wideAt ro) n P Q a w :=
 wpIn_region_any hm (any_bridge (noDefer_at hd) hL _ _ _ _ (wpAny_of_held _ _ _ _ (h hS)))
end Go.Proofs.Ytmedickofiielaa
