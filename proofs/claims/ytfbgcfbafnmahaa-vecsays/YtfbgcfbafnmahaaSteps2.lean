/- A step of a region that draws its order: a call, by its contract. -/
import Derived.Test.YtfbgcfbafnmahaaSteps
namespace Go.Proofs.Ytfbgcfbafnmahaa
open Go.RowKit

theorem step_call {P : Program} {ops : Array Oper} {o : Oper} {a : Act} {w : World} {K : Act → World → Prop} {Q : Exit → Act → World → Prop} {E : Prop}
    (hg : o.guard = none) (f : FuncId) (x : Operand) (t : TypeId) (hop : o.op = Op.call { callee := Callee.value (Operand.func f), args := #[x], argTypes := #[t] }) (v : Value) (hv : a.eval x = v) (hf : ∃ fn, P.funcs[f]? = some fn ∧ (fn.name == "runtime.NumGoroutine") = false ∧ fn.body.isNone = false)
    (hc : Calls P f #[v] w fun e w' => ∃ u, e = .returned u ∧ K (a.put o.dst u) w') :
    if Region.wanted o (yielded ops a.tmps) = true then Oper.wp P o a w K Q else E := by
  have hw : Region.wanted o (yielded ops a.tmps) = true := by simp [Region.wanted, hg]
  rw [if_pos hw]
  unfold Oper.wp
  obtain ⟨fn, f1, f2, f3⟩ := hf
  have e : (execOp a.eval o).run P w = .ok (.enter f #[v]) w := by
    have hfn : a.eval (Operand.func f) = Value.func (Fn.func f) #[] #[] := rfl
    have hcf : (callFunc f #[v]).run P w = .ok (.enter f #[v]) w := by
      unfold callFunc
      have g2 : ¬ fn.name = "runtime.NumGoroutine" := by simpa using f2
      have g3 : ¬ fn.body = none := by intro e; rw [e] at f3; simp at f3
      simp [f1, g2, g3]
    unfold execOp
    rw [hop]
    simp [resolve, invoke, hv, hfn, Deferred.ofValue, hcf]
  rw [e, Oper.upon_enter]
  refine hc.mono ?_
  rintro e w' ⟨u, rfl, h⟩
  exact h

end Go.Proofs.Ytfbgcfbafnmahaa
