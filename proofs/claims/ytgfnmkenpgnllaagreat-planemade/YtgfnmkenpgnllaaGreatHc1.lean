/- Choices by numbers: the document's are the program's. -/
import Derived.Test.YtgfnmkenpgnllaaGreatRefs5
import Derived.Test.YtgfnmkenpgnllaaGreatRowC
namespace Go.Proofs.YtgfnmkenpgnllaaGreat
open Go.RowKit

theorem ext_all : ∀ (k : Nat) {n fr : Nat} {c : List Int}, c.length = k → (∀ i, i < k → (fr : Int) ≤ c.getD i 0 ∧ c.getD i 0 < n) → (∀ i j, i < j → j < k → c.getD i 0 < c.getD j 0) → c ∈ ext n k fr
  | 0, n, fr, c, hl, _, _ => by
    have := List.eq_nil_of_length_eq_zero hl
    subst this
    simp [ext]
  | k + 1, n, fr, c, hl, hb, hr => by
    cases c with
    | nil => simp at hl
    | cons a c =>
      have h0 := hb 0 (by omega)
      simp only [List.getD_cons_zero] at h0
      simp only [ext, List.mem_flatMap, List.mem_map, List.mem_range'_1]
      refine ⟨a.toNat, by omega, c, ext_all k (by simpa using hl) (fun i hi => ?_) (fun i j hij hj => ?_), by congr 1; omega⟩
      · have h1 := hb (i + 1) (by omega)
        have h2 := hr 0 (i + 1) (by omega) (by omega)
        simp only [List.getD_cons_succ, List.getD_cons_zero] at h1 h2
        exact ⟨by omega, h1.2⟩
      · have h2 := hr (i + 1) (j + 1) (by omega) (by omega)
        simpa only [List.getD_cons_succ] using h2

theorem chosen_ext {k n : Nat} {c : List Int} : c ∈ chosenL k n ↔ c ∈ ext n k 0 := by
  constructor
  · intro h
    obtain ⟨h1, h2⟩ := chosen_mem k n c h
    exact ext_all k (chosen_row k n c h) (fun i hi => by have := h1 i hi; exact ⟨by simpa using this.1, this.2⟩) h2
  · intro h
    obtain ⟨h1, h2, h3⟩ := ext_rise h
    have := chosen_all k n (fun i => (c.getD i 0).toNat) ⟨fun i j hij hj => by
      have q1 := h3 i j hij hj
      have q2 := h2 i (by omega)
      show (c.getD i 0).toNat < (c.getD j 0).toNat
      omega, fun i hi => by
      have q2 := h2 i hi
      show (c.getD i 0).toNat < n
      omega⟩
    have e : ((List.range k).map fun i => (((c.getD i 0).toNat : Nat) : Int)) = c := by
      apply List.ext_getElem
      · simp [h1]
      · intro i q1 q2
        have := h2 i (by omega)
        have e2 : c.getD i 0 = c[i] := by simp [show i < c.length by omega]
        simp only [List.getElem_map, List.getElem_range]
        rw [← e2]
        omega
    rw [e] at this
    exact this

end Go.Proofs.YtgfnmkenpgnllaaGreat
