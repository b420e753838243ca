/- The program's own lists: copies, divisors, signs. -/
import Derived.Test.YtkdileeahbaobaaDoorRefs
import Derived.Deep.QuietTactic
import Derived.BigQuiet
namespace Go.Proofs.YtkdileeahbaobaaDoor
open Go.RowKit

theorem low_prog {l : List Int} (h : 1 ≤ Lin.gc l) : (l.map fun z => z.tdiv (Lin.gc l)) = Lin.low l := by
  unfold Lin.low
  refine List.map_congr_left fun z hz => ?_
  obtain ⟨q, hq⟩ := Lin.gc_dvd hz
  have hne : (Lin.gc l : Int) ≠ 0 := by omega
  have e : z = (Lin.gc l : Int) * q := hq
  rw [e, Int.mul_tdiv_cancel_left q hne, Int.mul_ediv_cancel_left q hne]

theorem low_zero {l : List Int} (h : Lin.gc l = 0) : Lin.low l = l := by
  unfold Lin.low
  have : ∀ z ∈ l, z / (Lin.gc l : Int) = z := fun z hz => low_small hz (by omega)
  have e : l.map (fun z => z / (Lin.gc l : Int)) = l.map id := List.map_congr_left fun z hz => this z hz
  rw [e, List.map_id]

theorem upr_find {l : List Int} (h : l.any (· != 0) = true) : ∃ k : Nat, k < l.length ∧ findI (· != 0) l = k ∧ Lin.upr l = if l.getD k 0 < 0 then l.map (fun v => -v) else l := by
  have hk : l.findIdx (· != 0) < l.length := List.findIdx_lt_length.2 (by obtain ⟨x, hx, h2⟩ := List.any_eq_true.1 h; exact ⟨x, hx, h2⟩)
  refine ⟨l.findIdx (· != 0), hk, by simp [findI, h], ?_⟩
  unfold Lin.upr
  have e : (l.find? (fun v => v != 0)).getD 0 = l.getD (l.findIdx (· != 0)) 0 := by
    refine Lin.find_at hk (fun i hi => ?_) ?_
    · have h1 := List.not_of_lt_findIdx hi
      have h2 : i < l.length := by omega
      simpa [h2] using h1
    · have h1 := List.findIdx_getElem (w := hk)
      simpa [hk] using h1
  rw [e]

theorem upr_none {l : List Int} (h : l.any (· != 0) = false) : Lin.upr l = l := by
  unfold Lin.upr
  have : l.find? (fun v => v != 0) = none := by
    rw [List.find?_eq_none]; intro x hx hh
    exact absurd (List.any_eq_true.2 ⟨x, hx, hh⟩) (by rw [h]; simp)
  rw [this]; simp

end Go.Proofs.YtkdileeahbaobaaDoor
