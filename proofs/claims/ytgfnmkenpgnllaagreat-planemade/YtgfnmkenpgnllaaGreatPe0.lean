/- What a choice of rows gives: the place where they are met, if there is one alone and it keeps all rows (pure). -/
import Derived.Test.YtgfnmkenpgnllaaGreatRefs7
import Derived.Test.YtgfnmkenpgnllaaGreatRow1
import Derived.Test.YtgfnmkenpgnllaaGreatHc1
namespace Go.Proofs.YtgfnmkenpgnllaaGreat

/-- A row whose last number has the other sign. -/
def ngR (d : Nat) (r : List Int) : List Int := r.take d ++ [-(r.getD d 0)]

theorem ngR_len {d : Nat} {r : List Int} (h : r.length = d + 1) : (ngR d r).length = d + 1 := by simp [ngR, h]

theorem ngR_get {d i : Nat} {r : List Int} (h : r.length = d + 1) (hi : i < d + 1) : (ngR d r).getD i 0 = if i = d then -(r.getD d 0) else r.getD i 0 := by
  unfold ngR
  by_cases e : i = d
  · subst e
    rw [if_pos rfl]
    simp [List.getD_eq_getElem?_getD, h]
  · rw [if_neg e]
    have hi2 : i < (r.take d).length := by simp [h]; omega
    rw [List.getD_eq_getElem?_getD, List.getElem?_append_left hi2, List.getElem?_take_of_lt (by omega), ← List.getD_eq_getElem?_getD]

/-- What a choice of rows gives: the place where they are met, if there is one alone and it keeps all rows. -/
def ptY (d : Nat) (t : List (List Int)) : List Int :=
  if (normL (d + 1) (t.map (ngR d))).getD d 0 < 0 then (normL (d + 1) (t.map (ngR d))).map (fun z => -z) else normL (d + 1) (t.map (ngR d))

def ptK (R : List (List Int)) (d : Nat) (y : List Int) : Bool := R.all fun r => decide (dotL (r.take d) y ≤ r.getD d 0 * y.getD d 0)

def ptT (R : List (List Int)) (d : Nat) (t : List (List Int)) : Option (List Int) :=
  if normB (d + 1) (t.map (ngR d)) = true ∧ (normL (d + 1) (t.map (ngR d))).getD d 0 ≠ 0 ∧ ptK R d (ptY d t) = true then some (ptY d t) else none

end Go.Proofs.YtgfnmkenpgnllaaGreat
