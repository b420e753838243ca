/- The document's Empty. -/
import Derived.Test.YtfhhjifkgknhgaaEm0
import Derived.Deep.DeepCutAuto
namespace Go.Proofs.Ytfhhjifkgknhgaa
open Go.RowKit Lin
attribute [local go_sem ↓] Go.wp_at_zero Go.wp_at_succ

theorem fr_matE {B : Nat} {w : World} {v : Value} {m : List (List Int)} (h : Fr B 22 3 w v m) : Mat 0 22 3 w v m := by
  obtain ⟨vs, h1, h2, h3⟩ := h
  exact ⟨vs, h1, Sl.own h2, h3⟩

/-- Rows of a cut that may be, or of one with a row more. -/
def RwE (d : Nat) (rows : List (List Int)) : Prop := ∀ r ∈ rows, r.length = d + 1 ∧ ∀ z ∈ r, z.natAbs ≤ 20

theorem axs_snoc {d k : Nat} (h : k < d) : (axsL d).take (k + 1) = (axsL d).take k ++ [axR d k] := by
  have hl : k < (axsL d).length := by rw [axs_len]; exact h
  rw [List.take_succ_eq_append_getElem hl]
  simp [axsL]

end Go.Proofs.Ytfhhjifkgknhgaa
