/- Simplices one behind the other: the document's answer. -/
import Derived.Test.YtkfdpcgmpbopnaaGreatDoorSh10
namespace Go.Proofs.YtkfdpcgmpbopnaaGreatDoor
open Go.RowKit
attribute [local go_sem ↓] Go.wp_at_zero Go.wp_at_succ

/-- Is what x has in common with o in one of the sides? -/
def okAt (x : List Int) (sides : List (List Int)) (o : List Int) : Bool := sides.any (fun s => decide ((sharedL (sharedL x o) s).length = (sharedL x o).length))

theorem sides_snoc (x : List Int) (m : List (List Int)) (k : Nat) (h : k < m.length) : sidesL x (m.take (k + 1)) = sidesStep x (sidesL x (m.take k)) (m.getD k []) := by
  unfold sidesL
  rw [List.take_succ_eq_append_getElem h, List.foldl_append]
  simp [h]

theorem sides_le (x : List Int) : ∀ (l : List (List Int)) (acc : List (List Int)), (l.foldl (sidesStep x) acc).length ≤ acc.length + l.length
  | [], acc => by simp
  | o :: l, acc => by
    rw [List.foldl_cons]
    have := sides_le x l (sidesStep x acc o)
    have h2 : (sidesStep x acc o).length ≤ acc.length + 1 := by
      unfold sidesStep
      split <;> simp
    simp only [List.length_cons]
    omega

theorem shared_le (x o : List Int) : (sharedL x o).length ≤ x.length := List.length_filter_le _ _

theorem okB_at {x : List Int} {ahead sides : List (List Int)} : okB x ahead sides = ahead.all (okAt x sides) := rfl

theorem okB_true {x : List Int} {m sides : List (List Int)} {i : Nat} (h : ∀ k, k < i → okAt x sides (m.getD k []) = true) : okB x (m.take i) sides = true := by
  rw [okB_at, List.all_eq_true]
  intro o ho
  obtain ⟨j, hj, hji, rfl⟩ := sim_take i o ho
  exact h j hji

theorem okB_false {x : List Int} {m sides : List (List Int)} {i k : Nat} (hi : i ≤ m.length) (hk : k < i) (h : okAt x sides (m.getD k []) = false) : okB x (m.take i) sides = false := by
  rw [okB_at, List.all_eq_false]
  refine ⟨m.getD k [], ?_, by rw [h]; simp⟩
  rw [List.mem_take_iff_getElem]
  exact ⟨k, by omega, by simp [show k < m.length by omega]⟩

end Go.Proofs.YtkfdpcgmpbopnaaGreatDoor
