/- Which simplices may be: the document's answer. -/
import Derived.Test.YtkfdpcgmpbopnaaGreatDoorSh4
namespace Go.Proofs.YtkfdpcgmpbopnaaGreatDoor
open Go.RowKit
attribute [local go_sem ↓] Go.wp_at_zero Go.wp_at_succ

theorem Mat.takeM {B n c : Nat} {w : World} {ao : Option Addr} {m : List (List Int)} (h : Mat B 22 3 w (.slice ao m.length c) m) (hn : n ≤ m.length) : Mat B 22 3 w (.slice ao n c) (m.take n) := by
  obtain ⟨vs, h1, ⟨ao', cap, hv, h2, h3, h4, h5⟩, h6⟩ := h
  simp only [Value.slice.injEq] at hv
  obtain ⟨rfl, _, rfl⟩ := hv
  have hl : (m.take n).length = n := by rw [List.length_take]; omega
  have hlv : (vs.take n).length = n := by rw [List.length_take]; omega
  refine ⟨vs.take n, by rw [hlv, hl], ⟨ao, c, by rw [hlv], by rw [hlv]; omega, h3, fun i hi => ?_, h5⟩, fun i hi => ?_⟩
  · rw [hlv] at hi
    obtain ⟨b, o, q1, q2, q3⟩ := h4 i (by omega)
    exact ⟨b, o, q1, by rw [q2, List.getElem?_take_of_lt hi], q3⟩
  · rw [hl] at hi
    have e1 : (vs.take n).getD i (.slice none 0 0) = vs.getD i (.slice none 0 0) := by simp [List.getElem?_take_of_lt hi]
    have e2 : (m.take n).getD i [] = m.getD i [] := by simp [List.getElem?_take_of_lt hi]
    rw [e1, e2]
    exact h6 i (by omega)

theorem step_c2 {P : Program} {ops : Array Oper} {o : Oper} {a : Act} {w : World} {K : Act → World → Prop} {Q : Exit → Act → World → Prop} {E : Prop}
    (hg : o.guard = none) (f : FuncId) (x y : Operand) (t s : TypeId) (hop : o.op = Op.call { callee := Callee.value (Operand.func f), args := #[x, y], argTypes := #[t, s] }) (v u : Value) (hv : a.eval x = v) (hu : a.eval y = u) (hf : ∃ fn, P.funcs[f]? = some fn ∧ (fn.name == "runtime.NumGoroutine") = false ∧ fn.body.isNone = false)
    (hc : Calls P f #[v, u] w fun e w' => ∃ u, e = .returned u ∧ K (a.put o.dst u) w') :
    if Region.wanted o (yielded ops a.tmps) = true then Oper.wp P o a w K Q else E := by
  have hw : Region.wanted o (yielded ops a.tmps) = true := by simp [Region.wanted, hg]
  rw [if_pos hw]
  unfold Oper.wp
  obtain ⟨fn, f1, f2, f3⟩ := hf
  have e : (execOp a.eval o).run P w = .ok (.enter f #[v, u]) w := by
    have hfn : a.eval (Operand.func f) = Value.func (Fn.func f) #[] #[] := rfl
    have hcf : (callFunc f #[v, u]).run P w = .ok (.enter f #[v, u]) w := by
      unfold callFunc
      have g2 : ¬ fn.name = "runtime.NumGoroutine" := by simpa using f2
      have g3 : ¬ fn.body = none := by intro e; rw [e] at f3; simp at f3
      simp [f1, g2, g3]
    unfold execOp
    rw [hop]
    simp [resolve, invoke, hv, hu, hfn, Deferred.ofValue, hcf]
  rw [e, Oper.upon_enter]
  refine hc.mono ?_
  rintro e w' ⟨u, rfl, h⟩
  exact h

/-- A world that is as it was but for draws. -/
def Qt (w wr : World) : Prop := ∃ n, wr = w.drewN n

theorem Qt.refl (w : World) : Qt w w := ⟨0, rfl⟩
theorem Qt.drew {w wr : World} (h : Qt w wr) : Qt w wr.drew := by
  obtain ⟨n, rfl⟩ := h
  exact ⟨n + 1, rfl⟩
theorem Qt.drewN {w wr : World} (h : Qt w wr) (k : Nat) : Qt w (wr.drewN k) := by
  obtain ⟨n, rfl⟩ := h
  exact ⟨n + k, by rw [World.drewN_drewN]⟩
theorem Qt.trans {w wr ws : World} (h : Qt w wr) (h2 : Qt wr ws) : Qt w ws := by
  obtain ⟨k, rfl⟩ := h2
  exact h.drewN k
theorem Qt.mat {B : Nat} {w wr : World} {v : Value} {m : List (List Int)} (h : Qt w wr) (hm : Mat B 22 3 w v m) : Mat B 22 3 wr v m := by
  obtain ⟨n, rfl⟩ := h
  exact hm.drewN n
theorem Qt.sl {B : Nat} {e : TypeId} {w wr : World} {v : Value} {m : List Value} (h : Qt w wr) (hm : Sl B e w v m) : Sl B e wr v m := by
  obtain ⟨n, rfl⟩ := h
  exact hm.drewN n
theorem Qt.cell {w wr : World} (h : Qt w wr) (a : Addr) : wr.cell? a = w.cell? a := by
  obtain ⟨n, rfl⟩ := h
  simp
theorem Qt.below {N : Nat} {w wr : World} (h : Qt w wr) : Below N w wr := by
  obtain ⟨n, rfl⟩ := h
  exact bel_drewN (Below.refl _ _) n

end Go.Proofs.YtkfdpcgmpbopnaaGreatDoor
