/- Even squares are sums of orders (Birkhoff), pure. -/
import Derived.Test.YtmffbaclgbmnbaaNp0
import Derived.Test.YtmffbaclgbmnbaaTp2
import Derived.Test.YtmffbaclgbmnbaaLinAll
namespace Go.Proofs.Ytmffbaclgbmnbaa

theorem sumF_N (f : Nat → Int) : ∀ n, sumF f n = Lin.sumN n f
  | 0 => rfl
  | n + 1 => by simp only [sumF, Lin.sumN]; rw [sumF_N f n]

theorem sumN_le {f g : Nat → Int} : ∀ {n : Nat}, (∀ i, i < n → f i ≤ g i) → Lin.sumN n f ≤ Lin.sumN n g
  | 0, _ => Int.le_refl _
  | n + 1, h => by
    have h1 := sumN_le (n := n) (fun i hi => h i (by omega))
    have h2 := h n (by omega)
    simp only [Lin.sumN]
    omega

theorem sumN_nn_zero {f : Nat → Int} : ∀ {n : Nat}, (∀ i, i < n → 0 ≤ f i) → Lin.sumN n f ≤ 0 → ∀ i, i < n → f i = 0
  | n + 1, h, h0, i, hi => by
    have h1 : 0 ≤ Lin.sumN n f := by
      have := sumN_le (n := n) (f := fun _ => 0) (g := f) (fun i hi => h i (by omega))
      rw [Lin.sumN_zero (fun _ _ => rfl)] at this
      exact this
    have h2 := h n (by omega)
    simp only [Lin.sumN] at h0
    by_cases e : i = n
    · subst e; omega
    · exact sumN_nn_zero (n := n) (fun i hi => h i (by omega)) (by omega) i (by omega)

/-- All rows and columns have the same sum. -/
structure EvT (n : Nat) (R : List (List Int)) (T : Int) : Prop where
  row : ∀ i, i < n → Lin.sumN n (fun j => ent R i j) = T
  col : ∀ j, j < n → Lin.sumN n (fun i => ent R i j) = T

/-- Where a square has nothing, 1; else 0. -/
def holM (n : Nat) (R : List (List Int)) : List (List Int) := (List.range n).map fun i => (List.range n).map fun j => if 0 < ent R i j then 0 else 1

theorem holM_ent {n : Nat} {R : List (List Int)} {i j : Nat} (hi : i < n) (hj : j < n) : ent (holM n R) i j = if 0 < ent R i j then 0 else 1 := by
  have e1 : (holM n R).getD i [] = (List.range n).map fun j => if 0 < ent R i j then (0 : Int) else 1 := by
    simp [holM, List.getD_eq_getElem?_getD, hi]
  show ((holM n R).getD i []).getD j 0 = _
  rw [e1]
  simp [List.getD_eq_getElem?_getD, hj]

theorem birk {n : Nat} {R : List (List Int)} {T : Int} (hn : ∀ i j, 0 ≤ ent R i j) (h : EvT n R T) (hT : 0 < T) : ∃ σ, Ins n σ ∧ ∀ i, i < n → 0 < ent R i (σ i) := by
  have hC : ∀ i j, i < n → j < n → 0 ≤ ent (holM n R) i j ∧ ent (holM n R) i j ≤ 1 := fun i j hi hj => by
    rw [holM_ent hi hj]; split <;> omega
  have cF : ∀ (f : Nat → Nat) (k : Nat), costF (holM n R) f k = Lin.sumN k (fun i => ent (holM n R) i (f i)) := by
    intro f k
    induction k with
    | zero => rfl
    | succ k ih => simp only [costF, Lin.sumN]; rw [ih]
  have hcost : ∀ g, Ins n g → 0 ≤ costF (holM n R) g n := fun g hg => by
    rw [cF]
    have := sumN_le (n := n) (f := fun _ => 0) (g := fun i => ent (holM n R) i (g i)) (fun i hi => (hC i _ hi (hg.lt i hi)).1)
    rw [Lin.sumN_zero (fun _ _ => rfl)] at this
    exact this
  have hid : Ins n (fun i => i) := ⟨fun i hi => hi, fun i j _ _ e => e⟩
  obtain ⟨x, ⟨σ, hσ, hx⟩, hmin⟩ := least_of (fun z => ∃ g, Ins n g ∧ costF (holM n R) g n = z) 0 (costF (holM n R) (fun i => i) n).toNat _ ⟨_, hid, rfl⟩ (by have := hcost _ hid; omega) (by rintro y ⟨g, hg, rfl⟩; exact hcost g hg)
  have hmin' : ∀ g, Ins n g → costF (holM n R) σ n ≤ costF (holM n R) g n := fun g hg => by rw [hx]; exact hmin _ ⟨g, hg, rfl⟩
  have hw : ∀ r s, r < n → s < n → -((1 : Nat) : Int) ≤ wgtT (holM n R) σ r s := fun r s hr hs => by
    have a := hC r (σ s) hr (hσ.lt s hs)
    have b := hC r (σ r) hr (hσ.lt r hr)
    simp only [wgtT]
    omega
  obtain ⟨V, hV⟩ : ∃ V, V = rnds (holM n R) σ n n := ⟨_, rfl⟩
  have hfair : ∀ i j, i < n → j < n → (ent (holM n R) i (σ i) - V.getD (σ i) 0) + V.getD j 0 ≤ ent (holM n R) i j := fun i j hi hj => by
    rw [hV]; exact rnds_fair hσ hmin' hw hi hj
  have heven := rnds_even (M := holM n R) hσ V
  rw [sumF_N, sumF_N] at heven
  have hsum : Lin.sumN n (fun i => Lin.sumN n (fun j => ent R i j * ((ent (holM n R) i (σ i) - V.getD (σ i) 0) + V.getD j 0))) ≤ 0 := by
    have h1 : Lin.sumN n (fun i => Lin.sumN n (fun j => ent R i j * ((ent (holM n R) i (σ i) - V.getD (σ i) 0) + V.getD j 0))) ≤ Lin.sumN n (fun _ => (0 : Int)) := by
      refine sumN_le fun i hi => ?_
      have h2 : Lin.sumN n (fun j => ent R i j * ((ent (holM n R) i (σ i) - V.getD (σ i) 0) + V.getD j 0)) ≤ Lin.sumN n (fun _ => (0 : Int)) := by
        refine sumN_le fun j hj => ?_
        have f := hfair i j hi hj
        rw [holM_ent hi hj] at f
        have p := hn i j
        by_cases e : 0 < ent R i j
        · rw [if_pos e] at f
          have := Int.mul_le_mul_of_nonneg_left f p
          simpa using this
        · have e0 : ent R i j = 0 := by omega
          rw [e0]; simp
      rw [Lin.sumN_zero (fun _ _ => rfl)] at h2
      exact h2
    rw [Lin.sumN_zero (fun _ _ => rfl)] at h1
    exact h1
  have hsplit : Lin.sumN n (fun i => Lin.sumN n (fun j => ent R i j * ((ent (holM n R) i (σ i) - V.getD (σ i) 0) + V.getD j 0))) = T * costF (holM n R) σ n := by
    have e1 : ∀ i, i < n → Lin.sumN n (fun j => ent R i j * ((ent (holM n R) i (σ i) - V.getD (σ i) 0) + V.getD j 0)) = T * (ent (holM n R) i (σ i) - V.getD (σ i) 0) + Lin.sumN n (fun j => ent R i j * V.getD j 0) := fun i hi => by
      rw [← h.row i hi, ← Lin.sumN_mul_right, ← Lin.sumN_add]
      exact Lin.sumN_congr fun j _ => by rw [Int.mul_add]
    rw [Lin.sumN_congr e1, Lin.sumN_add, Lin.sumN_mul, Lin.sumN_swap]
    have e2 : Lin.sumN n (fun j => Lin.sumN n (fun i => ent R i j * V.getD j 0)) = T * Lin.sumN n (fun j => V.getD j 0) := by
      rw [← Lin.sumN_mul]
      refine Lin.sumN_congr fun j hj => ?_
      rw [Lin.sumN_mul_right, h.col j hj]
    rw [e2, ← Int.mul_add, heven]
  rw [hsplit] at hsum
  have hL : costF (holM n R) σ n ≤ 0 := by
    refine Int.not_lt.1 fun hlt => ?_
    have := Int.mul_pos hT hlt
    omega
  rw [cF] at hL
  have hz := sumN_nn_zero (fun i hi => (hC i _ hi (hσ.lt i hi)).1) hL
  refine ⟨σ, hσ, fun i hi => ?_⟩
  have := hz i hi
  rw [holM_ent hi (hσ.lt i hi)] at this
  split at this
  · assumption
  · omega

end Go.Proofs.Ytmffbaclgbmnbaa
