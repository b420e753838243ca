/- Things by falling weights: the comparison, and the sort by insertion. -/
import Derived.Test.YtomhhonigffilaaDoorMt8
import Derived.Test.YtomhhonigffilaaDoorOrd1
namespace Go.Proofs.YtomhhonigffilaaDoor
open Go.RowKit
attribute [local go_sem ↓] Go.wp_at_zero Go.wp_at_succ

/-- Two neighbours changed about. -/
def swL (zs : List Int) (j : Nat) : List Int := (zs.set (j + 1) (zs.getD j 0)).set j (zs.getD (j + 1) 0)

/-- Whether the thing in place j + 1 is heavier than the one ahead of it. -/
def upB (ws zs : List Int) (j : Nat) : Bool := decide (cmpI (ws.getD (zs.getD j 0).toNat 0) (ws.getD (zs.getD (j + 1) 0).toNat 0) < 0)

/-- The thing in place j goes ahead of all lighter ones. -/
def insJ (ws : List Int) : Nat → List Int → List Int
  | 0, zs => zs
  | j + 1, zs => if upB ws zs j = true then insJ ws j (swL zs j) else zs

/-- From place i on. -/
def insO (ws : List Int) : Nat → Nat → List Int → List Int
  | 0, _, zs => zs
  | m + 1, i, zs => insO ws m (i + 1) (insJ ws i zs)

theorem swL_len (zs : List Int) (j : Nat) : (swL zs j).length = zs.length := by simp [swL]

/-- All are places of the weights. -/
def Pl (n : Nat) (zs : List Int) : Prop := ∀ k, k < zs.length → 0 ≤ zs.getD k 0 ∧ zs.getD k 0 < n

theorem Pl.sw {n : Nat} {zs : List Int} {j : Nat} (h : Pl n zs) (hj : j + 1 < zs.length) : Pl n (swL zs j) := by
  intro k hk
  rw [swL_len] at hk
  have h1 := h j (by omega)
  have h2 := h (j + 1) hj
  have h3 := h k hk
  unfold swL
  by_cases e : j = k
  · subst e
    rw [List.getD_eq_getElem?_getD, List.getElem?_set_self (by simp; omega), Option.getD_some]
    exact h2
  · rw [List.getD_eq_getElem?_getD, List.getElem?_set_ne e]
    by_cases e2 : j + 1 = k
    · subst e2
      rw [List.getElem?_set_self (by omega), Option.getD_some]
      exact h1
    · rw [List.getElem?_set_ne e2, ← List.getD_eq_getElem?_getD]
      exact h3

end Go.Proofs.YtomhhonigffilaaDoor
