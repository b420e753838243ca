/- matroid.isSet, Check. -/
import Derived.Test.YtomhhonigffilaaDoorMt5
namespace Go.Proofs.YtomhhonigffilaaDoor
open Go.RowKit
attribute [local go_sem ↓] Go.wp_at_zero Go.wp_at_succ

theorem wrap_pow8 : ∀ N : Nat, N ≤ 8 → wrap64 ((2 : Int) ^ N) = 2 ^ N := by decide +kernel

/-- The first that is not 0. -/
def scanE (f : Nat → Int) : Nat → Int
  | 0 => 0
  | k + 1 => if scanE f k ≠ 0 then scanE f k else f k

theorem scan_zero {f : Nat → Int} : ∀ {n : Nat}, (∀ i, i < n → f i = 0) → scanE f n = 0
  | 0, _ => rfl
  | n + 1, h => by
    simp only [scanE]
    rw [scan_zero (n := n) (fun i hi => h i (by omega)), if_neg (by simp), h n (by omega)]

theorem scan_hit {f : Nat → Int} {k : Nat} (h0 : ∀ i, i < k → f i = 0) (h1 : f k ≠ 0) : ∀ {n : Nat}, k < n → scanE f n = f k
  | n + 1, h => by
    simp only [scanE]
    by_cases hk : k = n
    · subst hk
      rw [scan_zero h0, if_neg (by simp)]
    · rw [scan_hit h0 h1 (n := n) (by omega), if_pos h1]

def szI (b : Int) : Nat := (mem8 b.toNat).length

/-- What is wrong with a basis. -/
def stepE (N : Nat) (bs : List Int) (i : Nat) : Int :=
  if (decide (0 ≤ bs.getD i 0) && decide (bs.getD i 0 < 2 ^ N)) = false then 4
  else if (decide (0 < i) && decide (bs.getD i 0 ≤ bs.getD (i - 1) 0)) = true ∨ szI (bs.getD i 0) ≠ szI (bs.getD 0 0) then 3 else 0

def matE (N : Int) (bs : List Int) : Int :=
  if N < 0 ∨ 8 < N then 11 else if bs.length = 0 then 6 else if scanE (stepE N.toNat bs) bs.length ≠ 0 then scanE (stepE N.toNat bs) bs.length else if exB bs = true then 0 else 3

structure St0 (N : Nat) (bs : List Int) (i : Nat) : Prop where
  lo : 0 ≤ bs.getD i 0
  hi : bs.getD i 0 < 2 ^ N
  up : 0 < i → bs.getD (i - 1) 0 < bs.getD i 0
  sz : szI (bs.getD i 0) = szI (bs.getD 0 0)

theorem step0 {N : Nat} {bs : List Int} {i : Nat} : stepE N bs i = 0 ↔ St0 N bs i := by
  unfold stepE
  constructor
  · intro h
    split at h
    · omega
    · split at h
      · omega
      · rename_i h1 h2
        simp only [Bool.and_eq_false_iff, decide_eq_false_iff_not, Bool.and_eq_true, decide_eq_true_eq, not_or, Decidable.not_not] at h1 h2
        exact ⟨h1.1, h1.2, fun hi => by have := h2.1; omega, by omega⟩
  · intro h
    have h1 := h.lo
    have h2 := h.hi
    have h4 := h.sz
    rw [if_neg (by rw [decide_eq_true h1, decide_eq_true h2]; decide), if_neg]
    rintro (h3 | h3)
    · simp only [Bool.and_eq_true, decide_eq_true_eq] at h3
      have := h.up h3.1
      omega
    · exact h3 h4

theorem st_b8 {N : Nat} {bs : List Int} (hN : N ≤ 8) (h : ∀ i, i < bs.length → stepE N bs i = 0) : B8 bs := fun b hb => by
  obtain ⟨i, hi, rfl⟩ := List.getElem_of_mem hb
  have := step0.1 (h i hi)
  have h1 := this.lo
  have h2 := this.hi
  rw [List.getD_eq_getElem?_getD, List.getElem?_eq_getElem hi, Option.getD_some] at h1 h2
  have h3 : (2 : Int) ^ N ≤ 256 := by
    have : ∀ N : Nat, N ≤ 8 → (2 : Int) ^ N ≤ 256 := by decide
    exact this N hN
  omega

theorem st_ris {N : Nat} {bs : List Int} (h : ∀ i, i < bs.length → stepE N bs i = 0) : Ris bs := by
  have key : ∀ j, j < bs.length → ∀ i, i < j → bs.getD i 0 < bs.getD j 0 := by
    intro j
    induction j with
    | zero => intro _ i hi; omega
    | succ j ih =>
      intro hj i hi
      have h1 := (step0.1 (h (j + 1) hj)).up (by omega)
      rw [Nat.add_sub_cancel] at h1
      by_cases e : i = j
      · subst e; exact h1
      · have := ih (by omega) i (by omega)
        omega
  unfold Ris
  rw [List.pairwise_iff_getElem]
  intro i j hi hj hij
  have := key j hj i hij
  rw [List.getD_eq_getElem?_getD, List.getD_eq_getElem?_getD, List.getElem?_eq_getElem hi, List.getElem?_eq_getElem hj, Option.getD_some, Option.getD_some] at this
  exact this

end Go.Proofs.YtomhhonigffilaaDoor
