/- Which points the program keeps as corners. -/
import Derived.Test.YtkfdpcgmpbopnaaGreatDoorHm16
import Derived.Test.YtkfdpcgmpbopnaaGreatDoorHm5
namespace Go.Proofs.YtkfdpcgmpbopnaaGreatDoor
open Lin

theorem agn_zero {d : Nat} {r x : List Int} (hr : r.length = d + 1) (hx : x.length = d) : agn r x = 0 ↔ r.getD d 0 = dot d (V r) (V x) := by
  have e : dotL (r.take d) x = dot d (V r) (V x) := by
    rw [dotL_eq (d := d) (by rw [List.length_take]; omega) x]
    exact dot_congr (fun i hi => V_take hi) (fun _ _ => rfl)
  unfold agn
  rw [hx, e]
  generalize dot d (V r) (V x) = a
  generalize r.getD d 0 = b
  unfold cmpI
  repeat' split
  all_goals omega

theorem twin_iff {d : Nat} {m P : List (List Int)} {x : List Int} (hm : ∀ r ∈ m, r.length = d + 1) (hP : ∀ y ∈ P, y.length = d) (hx : x.length = d) :
    twin m P x = false ↔ ∀ y ∈ P, y ≠ x → ∃ r ∈ m, r.getD d 0 = dot d (V r) (V x) ∧ r.getD d 0 ≠ dot d (V r) (V y) := by
  unfold twin
  rw [List.any_eq_false]
  constructor
  · intro h y hy hne
    have h1 := h y hy
    have h2 : (x == y) = false := by simpa using fun h : x = y => hne h.symm
    rw [h2] at h1
    simp only [Bool.not_false, Bool.true_and, Bool.not_eq_true', Bool.not_eq_false] at h1
    obtain ⟨r, hr, ha⟩ := List.any_eq_true.1 h1
    unfold apt at ha
    simp only [Bool.and_eq_true, decide_eq_true_eq, Bool.not_eq_true', decide_eq_false_iff_not] at ha
    exact ⟨r, hr, (agn_zero (hm r hr) hx).1 ha.1, fun e => ha.2 ((agn_zero (hm r hr) (hP y hy)).2 e)⟩
  · intro h y hy hc
    simp only [Bool.and_eq_true, Bool.not_eq_true', beq_eq_false_iff_ne] at hc
    obtain ⟨r, hr, h1, h2⟩ := h y hy (fun e => hc.1 e.symm)
    have := List.any_eq_false.1 hc.2 r hr
    apply this
    unfold apt
    simp only [Bool.and_eq_true, decide_eq_true_eq, Bool.not_eq_true', decide_eq_false_iff_not]
    exact ⟨(agn_zero (hm r hr) hx).2 h1, fun e => h2 ((agn_zero (hm r hr) (hP y hy)).1 e)⟩

end Go.Proofs.YtkfdpcgmpbopnaaGreatDoor
