/- A call of a Go function as one step of a region that draws its order: by its contract. -/
import Derived.Deep.RegionLaw
import Derived.Shelf.Abstract
import Derived.Test.YtnecjofgjbfheaaGreatDoorKit
import Derived.Test.YtnecjofgjbfheaaGreatDoorRow
namespace Go.Proofs.YtnecjofgjbfheaaGreatDoor
open Go.RowKit Go.Proofs
set_option maxRecDepth 100000

theorem step_call {P : Program} {ops : Array Oper} {o : Oper} {a : Act} {w : World} {K : Act → World → Prop} {Q : Exit → Act → World → Prop} {E : Prop} (hgd : o.guard = none) (f : FuncId) (xs : Array Operand) (ts : Array TypeId)
    (ho : o.op = .call { callee := .value (.func f), args := xs, argTypes := ts }) (vs : Array Value) (hv : xs.map a.eval = vs) (he : Enters P f) {post : Ending → World → Prop} (hc : Calls P f vs w post)
    (h : ∀ e w', post e w' → ∃ u, e = .returned u ∧ K (a.put o.dst u) w') :
    if Region.wanted o (yielded ops a.tmps) = true then Oper.wp P o a w K Q else E := by
  have hw : Region.wanted o (yielded ops a.tmps) = true := by simp [Region.wanted, hgd]
  rw [if_pos hw]
  unfold Oper.wp execOp
  subst hv
  have hr := he (xs.map a.eval) w
  have hf : (Sem.run P (Deferred.ofValue (a.eval (Operand.func f)) (Array.map a.eval xs)) w) = .ok { target := .fn (.func f) #[], args := xs.map a.eval } w := by
    show Sem.run P (pure _) w = _
    simp
  simp only [ho, resolve, Sem.run_bind, hf, Result.andThen_ok, invoke, Array.append_empty, hr]
  refine Calls.mono hc fun e w' hp => ?_
  obtain ⟨u, rfl, hk⟩ := h e w' hp
  exact hk

end Go.Proofs.YtnecjofgjbfheaaGreatDoor
