/- Plain facts: the powers of a small number, and the points of a cyclic polytope. -/
namespace Go.Proofs.Ytfbgcfbafnmahaa

/-- t, t^2, .. (d of them). -/
def pw (t : Int) : Nat → List Int
  | 0 => []
  | d + 1 => pw t d ++ [t ^ (d + 1)]

@[simp] theorem pw_length (t : Int) (d : Nat) : (pw t d).length = d := by
  induction d with
  | zero => rfl
  | succ d ih => simp [pw, ih]

theorem pw_get (t : Int) (d i : Nat) (h : i < d) : (pw t d).getD i 0 = t ^ (i + 1) := by
  induction d with
  | zero => omega
  | succ d ih =>
    simp only [pw, List.getD_eq_getElem?_getD]
    by_cases e : i < d
    · rw [List.getElem?_append_left (by simpa using e)]
      have := ih e
      simpa [List.getD_eq_getElem?_getD] using this
    · have : i = d := by omega
      subst this
      rw [List.getElem?_append_right (by simp)]
      simp

theorem pow_small : ∀ a : Fin 25, ∀ k : Fin 5, -20736 ≤ ((a.val : Int) - 12) ^ k.val ∧ ((a.val : Int) - 12) ^ k.val ≤ 20736 := by decide

theorem pow_bd (t : Int) (k : Nat) (h0 : -12 ≤ t) (h1 : t ≤ 12) (hk : k ≤ 4) : -20736 ≤ t ^ k ∧ t ^ k ≤ 20736 := by
  have := pow_small ⟨(t + 12).toNat, by omega⟩ ⟨k, by omega⟩
  have e : (((t + 12).toNat : Nat) : Int) - 12 = t := by omega
  rw [show ((⟨(t + 12).toNat, by omega⟩ : Fin 25).val : Int) - 12 = t from e] at this
  exact this

theorem pow_next (t : Int) (k : Nat) : t ^ k * t = t ^ (k + 1) := by rw [Int.pow_succ]

/-- The points of a cyclic polytope: the first k of n. -/
def cpts (n d : Nat) : Nat → List (List Int)
  | 0 => []
  | k + 1 => cpts n d k ++ [pw ((k : Int) - (n : Int) / 2) d]

@[simp] theorem cpts_length (n d k : Nat) : (cpts n d k).length = k := by
  induction k with
  | zero => rfl
  | succ k ih => simp [cpts, ih]

end Go.Proofs.Ytfbgcfbafnmahaa
