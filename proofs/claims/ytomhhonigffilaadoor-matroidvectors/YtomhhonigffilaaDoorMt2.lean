/- slices.BinarySearch at numbers that rise. -/
import Derived.Test.YtomhhonigffilaaDoorMt1
import Derived.Deep.QuietTactic
import Derived.BigQuiet
namespace Go.Proofs.YtomhhonigffilaaDoor
open Go.RowKit
attribute [local go_sem ↓] Go.wp_at_zero Go.wp_at_succ

/-- How far a search has come. -/
structure Srch (xs : List Int) (t : Int) (i j : Nat) : Prop where
  ij : i ≤ j
  jn : j ≤ xs.length
  lo : ∀ k, k < i → xs.getD k 0 < t
  hi : ∀ k, j ≤ k → k < xs.length → t ≤ xs.getD k 0

theorem ris_le {xs : List Int} (h : Ris xs) {i j : Nat} (hij : i ≤ j) (hj : j < xs.length) : xs.getD i 0 ≤ xs.getD j 0 := by
  rcases Nat.lt_or_ge i j with h1 | h1
  · have := List.pairwise_iff_getElem.1 h i j (by omega) hj h1
    simp only [List.getD_eq_getElem?_getD]
    rw [List.getElem?_eq_getElem (by omega), List.getElem?_eq_getElem hj]
    simp only [Option.getD_some]
    omega
  · have : i = j := by omega
    subst this
    exact Int.le_refl _

theorem Srch.up {xs : List Int} {t : Int} {i j h : Nat} (hs : Srch xs t i j) (hr : Ris xs) (h2 : h < j) (hl : xs.getD h 0 < t) : Srch xs t (h + 1) j :=
  ⟨by omega, hs.jn, fun k hk => by
    have := ris_le hr (i := k) (j := h) (by omega) (by have := hs.jn; omega)
    omega, hs.hi⟩

theorem Srch.down {xs : List Int} {t : Int} {i j h : Nat} (hs : Srch xs t i j) (hr : Ris xs) (h1 : i ≤ h) (h2 : h < j) (hl : ¬ xs.getD h 0 < t) : Srch xs t i h :=
  ⟨h1, by have := hs.jn; omega, hs.lo, fun k hk hk2 => by
    have := ris_le hr (i := h) (j := k) hk hk2
    omega⟩

theorem Srch.fin {xs : List Int} {t : Int} {i : Nat} (hs : Srch xs t i i) (hr : Ris xs) : xs.contains t = (decide (i < xs.length) && (xs.getD i 0 == t)) := by
  rw [Bool.eq_iff_iff]
  simp only [List.contains_iff_mem, Bool.and_eq_true, decide_eq_true_eq, beq_iff_eq]
  constructor
  · intro hm
    obtain ⟨k, hk, e⟩ := List.getElem_of_mem hm
    have e' : xs.getD k 0 = t := by simp [hk, e]
    have h1 : ¬ k < i := fun h => by have := hs.lo k h; omega
    have h2 := ris_le hr (i := i) (j := k) (by omega) hk
    have h3 := hs.hi i (Nat.le_refl _) (by omega)
    exact ⟨by omega, by omega⟩
  · rintro ⟨h1, h2⟩
    rw [← h2]; simp [h1]

/-- How many are less. -/
def bsI (xs : List Int) (t : Int) : Nat := (xs.filter (fun z => decide (z < t))).length

theorem Srch.idx {xs : List Int} {t : Int} {i : Nat} (hs : Srch xs t i i) : i = bsI xs t := by
  have h1 : (xs.take i).filter (fun z => decide (z < t)) = xs.take i := List.filter_eq_self.2 (fun a ha => by
    obtain ⟨k, hk, rfl⟩ := List.mem_take_iff_getElem.1 ha
    have := hs.lo k (by omega)
    rw [List.getD_eq_getElem?_getD, List.getElem?_eq_getElem (by omega), Option.getD_some] at this
    exact decide_eq_true this)
  have h2 : (xs.drop i).filter (fun z => decide (z < t)) = [] := List.filter_eq_nil_iff.2 (fun a ha => by
    obtain ⟨k, hk, rfl⟩ := List.mem_drop_iff_getElem.1 ha
    have := hs.hi (i + k) (by omega) (by omega)
    rw [List.getD_eq_getElem?_getD, List.getElem?_eq_getElem (by omega), Option.getD_some] at this
    simp
    omega)
  have h3 : bsI xs t = ((xs.take i ++ xs.drop i).filter (fun z => decide (z < t))).length := by rw [List.take_append_drop]; rfl
  rw [h3, List.filter_append, h1, h2, List.append_nil, List.length_take]
  have := hs.jn
  omega

end Go.Proofs.YtomhhonigffilaaDoor
