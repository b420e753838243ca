/- Prices, pure: going down from column to column, round by round. -/
import Derived.Test.YtmffbaclgbmnbaaTp1
namespace Go.Proofs.Ytmffbaclgbmnbaa

section
variable (M : List (List Int)) (σ : Nat → Nat)

/-- Column j's price, held against the one of the column that row i has. -/
def rlx (i : Nat) (v : List Int) (j : Nat) : List Int := v.set j (min (v.getD j 0) (v.getD (σ i) 0 + ent M i j - ent M i (σ i)))

def rlxTo (i : Nat) (v : List Int) (k : Nat) : List Int := (List.range k).foldl (rlx M σ i) v
def rwsTo (n : Nat) (v : List Int) (k : Nat) : List Int := (List.range k).foldl (fun v i => rlxTo M σ i v n) v
def rnds (n : Nat) : Nat → List Int
  | 0 => List.replicate n 0
  | k + 1 => rwsTo M σ n (rnds n k) n
end

section
variable {M : List (List Int)} {σ : Nat → Nat} {n : Nat}

theorem rlxTo_succ (i : Nat) (v : List Int) (k : Nat) : rlxTo M σ i v (k + 1) = rlx M σ i (rlxTo M σ i v k) k := by simp [rlxTo, List.range_succ]
theorem rlxTo_zero (i : Nat) (v : List Int) : rlxTo M σ i v 0 = v := rfl
theorem rwsTo_succ (v : List Int) (k : Nat) : rwsTo M σ n v (k + 1) = rlxTo M σ k (rwsTo M σ n v k) n := by simp [rwsTo, List.range_succ]
theorem rwsTo_zero (v : List Int) : rwsTo M σ n v 0 = v := rfl

theorem rlx_len (i : Nat) (v : List Int) (j : Nat) : (rlx M σ i v j).length = v.length := by simp [rlx]

theorem rlx_at (i : Nat) (v : List Int) (j k : Nat) (hj : j < v.length) : (rlx M σ i v j).getD k 0 = if k = j then min (v.getD j 0) (v.getD (σ i) 0 + ent M i j - ent M i (σ i)) else v.getD k 0 := by
  simp only [rlx, List.getD_eq_getElem?_getD, List.getElem?_set]
  by_cases h : j = k
  · subst h
    simp [hj]
  · simp [h, Ne.symm h]

theorem rlx_le (i : Nat) (v : List Int) (j k : Nat) (hj : j < v.length) : (rlx M σ i v j).getD k 0 ≤ v.getD k 0 := by
  rw [rlx_at i v j k hj]
  split
  · rename_i h; subst h; exact Int.min_le_left _ _
  · exact Int.le_refl _

theorem rlxTo_fact (i : Nat) (v : List Int) (hv : v.length = n) : ∀ k, k ≤ n → (rlxTo M σ i v k).length = n ∧ (∀ j, (rlxTo M σ i v k).getD j 0 ≤ v.getD j 0) ∧ ∀ j, j < k → (rlxTo M σ i v k).getD j 0 ≤ v.getD (σ i) 0 + ent M i j - ent M i (σ i)
  | 0, _ => ⟨by rw [rlxTo_zero]; exact hv, fun j => by rw [rlxTo_zero]; exact Int.le_refl _, fun j hj => by omega⟩
  | k + 1, hk => by
    obtain ⟨h1, h2, h3⟩ := rlxTo_fact i v hv k (by omega)
    rw [rlxTo_succ]
    refine ⟨by rw [rlx_len]; exact h1, fun j => Int.le_trans (rlx_le _ _ _ _ (by omega)) (h2 j), fun j hj => ?_⟩
    by_cases e : j = k
    · subst e
      rw [rlx_at _ _ _ _ (by omega), if_pos rfl]
      have h4 := h2 (σ i)
      have h5 := Int.min_le_right ((rlxTo M σ i v j).getD j 0) ((rlxTo M σ i v j).getD (σ i) 0 + ent M i j - ent M i (σ i))
      omega
    · exact Int.le_trans (rlx_le _ _ _ _ (by omega)) (h3 j (by omega))

theorem rwsTo_fact (v : List Int) (hv : v.length = n) : ∀ k, k ≤ n → (rwsTo M σ n v k).length = n ∧ (∀ j, (rwsTo M σ n v k).getD j 0 ≤ v.getD j 0) ∧ ∀ i, i < k → ∀ j, j < n → (rwsTo M σ n v k).getD j 0 ≤ v.getD (σ i) 0 + ent M i j - ent M i (σ i)
  | 0, _ => ⟨by rw [rwsTo_zero]; exact hv, fun j => by rw [rwsTo_zero]; exact Int.le_refl _, fun i hi => by omega⟩
  | k + 1, hk => by
    obtain ⟨h1, h2, h3⟩ := rwsTo_fact v hv k (by omega)
    obtain ⟨g1, g2, g3⟩ := rlxTo_fact (M := M) (σ := σ) k (rwsTo M σ n v k) h1 n (Nat.le_refl _)
    rw [rwsTo_succ]
    refine ⟨g1, fun j => Int.le_trans (g2 j) (h2 j), fun i hi j hj => ?_⟩
    by_cases e : i = k
    · subst e
      have h4 := h2 (σ i)
      have h5 := g3 j hj
      omega
    · exact Int.le_trans (g2 j) (h3 i (by omega) j hj)

/-- Between two bounds. -/
def Bnd (σ : Nat → Nat) (n : Nat) (L : Nat → Int) (v : List Int) : Prop := v.length = n ∧ (∀ s, s < n → L s ≤ v.getD (σ s) 0) ∧ ∀ j, v.getD j 0 ≤ 0

theorem rlx_bnd {L : Nat → Int} (_hσ : Ins n σ) (hL : ∀ r s, r < n → s < n → L s ≤ L r + wgtT M σ r s) {i j : Nat} (hi : i < n) (hj : j < n) {v : List Int} (h : Bnd σ n L v) : Bnd σ n L (rlx M σ i v j) := by
  obtain ⟨h1, h2, h3⟩ := h
  refine ⟨by rw [rlx_len]; exact h1, fun s hs => ?_, fun k => Int.le_trans (rlx_le _ _ _ _ (by omega)) (h3 k)⟩
  rw [rlx_at _ _ _ _ (by omega)]
  split
  · rename_i e
    have a := h2 s hs
    have b := hL i s hi hs
    have c := h2 i hi
    simp only [wgtT] at b
    rw [e] at a b
    omega
  · exact h2 s hs

theorem rlxTo_bnd {L : Nat → Int} (hσ : Ins n σ) (hL : ∀ r s, r < n → s < n → L s ≤ L r + wgtT M σ r s) {i : Nat} (hi : i < n) {v : List Int} (h : Bnd σ n L v) : ∀ k, k ≤ n → Bnd σ n L (rlxTo M σ i v k)
  | 0, _ => h
  | k + 1, hk => by rw [rlxTo_succ]; exact rlx_bnd hσ hL hi (by omega) (rlxTo_bnd hσ hL hi h k (by omega))

theorem rwsTo_bnd {L : Nat → Int} (hσ : Ins n σ) (hL : ∀ r s, r < n → s < n → L s ≤ L r + wgtT M σ r s) {v : List Int} (h : Bnd σ n L v) : ∀ k, k ≤ n → Bnd σ n L (rwsTo M σ n v k)
  | 0, _ => h
  | k + 1, hk => by rw [rwsTo_succ]; exact rlxTo_bnd hσ hL (by omega) (rwsTo_bnd hσ hL h k (by omega)) n (Nat.le_refl _)

theorem rnds_bnd {L : Nat → Int} (hσ : Ins n σ) (hL : ∀ r s, r < n → s < n → L s ≤ L r + wgtT M σ r s) (hL0 : ∀ s, s < n → L s ≤ 0) : ∀ k, Bnd σ n L (rnds M σ n k)
  | 0 => by
    refine ⟨by simp [rnds], fun s hs => ?_, fun j => ?_⟩
    · have := hσ.lt s hs
      have e : (List.replicate n (0 : Int)).getD (σ s) 0 = 0 := by simp [this]
      rw [rnds, e]
      exact hL0 s hs
    · simp only [rnds, List.getD_eq_getElem?_getD, List.getElem?_replicate]
      split <;> simp
  | k + 1 => rwsTo_bnd hσ hL (rnds_bnd hσ hL hL0 k) n (Nat.le_refl _)

theorem rnds_way {L : Nat → Int} (hσ : Ins n σ) (hL : ∀ r s, r < n → s < n → L s ≤ L r + wgtT M σ r s) (hL0 : ∀ s, s < n → L s ≤ 0) : ∀ (k : Nat) (t : List Nat) (r : Nat), t.length ≤ k → (∀ x ∈ r :: t, x < n) → (rnds M σ n k).getD (σ (la r t)) 0 ≤ pwT M σ r t
  | k, [], r, _, _ => by
    have := (rnds_bnd (M := M) hσ hL hL0 k).2.2 (σ r)
    simpa [pwT, la] using this
  | 0, x :: t, r, h, _ => by simp at h
  | k + 1, x :: t, r, h, hlt => by
    obtain ⟨t', s, e⟩ : ∃ t' s, x :: t = t' ++ [s] := by
      refine ⟨(x :: t).dropLast, (x :: t).getLast (by simp), ?_⟩
      exact (List.dropLast_concat_getLast (by simp)).symm
    rw [e] at h hlt ⊢
    simp only [List.length_append, List.length_singleton] at h
    have ih := rnds_way hσ hL hL0 k t' r (by omega) (fun y hy => hlt y (by rcases List.mem_cons.1 hy with h | h <;> simp [h]))
    rw [la_snoc, pwT_snoc]
    have hs : s < n := hlt s (by simp)
    have hl : la r t' < n := hlt _ (by
      have := la_mem t' r
      rcases List.mem_cons.1 this with h | h
      · rw [h]; simp
      · simp [h])
    have h1 := (rwsTo_fact (M := M) (σ := σ) (n := n) (rnds M σ n k) (rnds_bnd hσ hL hL0 k).1 n (Nat.le_refl _)).2.2 (la r t') hl (σ s) (hσ.lt s hs)
    have h2 : rnds M σ n (k + 1) = rwsTo M σ n (rnds M σ n k) n := rfl
    rw [h2]
    simp only [wgtT]
    omega

/-- What the prices are in the end. -/
theorem rnds_fit {B : Nat} (hσ : Ins n σ) (hmin : ∀ g, Ins n g → costF M σ n ≤ costF M g n) (hw : ∀ r s, r < n → s < n → -(B : Int) ≤ wgtT M σ r s) :
    ∃ L : Nat → Int, (∀ r s, r < n → s < n → L s ≤ L r + wgtT M σ r s) ∧ (∀ s, s < n → L s ≤ 0 ∧ -((B * n : Nat) : Int) ≤ L s) ∧ (∀ s, s < n → (rnds M σ n n).getD (σ s) 0 = L s) := by
  obtain ⟨L, h1, h2, h3⟩ := low_way hσ hmin hw
  refine ⟨L, h3, h2, fun s hs => ?_⟩
  have hb := (rnds_bnd (M := M) hσ h3 (fun s hs => (h2 s hs).1) n).2.1 s hs
  obtain ⟨r, t, p1, p2, p3, p4⟩ := h1 s hs
  have hl := nodup_lt p1 p2
  have hy := rnds_way (M := M) hσ h3 (fun s hs => (h2 s hs).1) n t r (by simp at hl; omega) p2
  rw [p3, p4] at hy
  omega

theorem rnds_fair {B : Nat} (hσ : Ins n σ) (hmin : ∀ g, Ins n g → costF M σ n ≤ costF M g n) (hw : ∀ r s, r < n → s < n → -(B : Int) ≤ wgtT M σ r s) {i j : Nat} (hi : i < n) (hj : j < n) :
    ent M i (σ i) - (rnds M σ n n).getD (σ i) 0 + (rnds M σ n n).getD j 0 ≤ ent M i j := by
  obtain ⟨L, h1, h2, h3⟩ := rnds_fit hσ hmin hw
  obtain ⟨s, hs, rfl⟩ := ins_onto hσ hj
  have := h1 i s hi hs
  rw [h3 i hi, h3 s hs]
  simp only [wgtT] at this
  omega

theorem cost_sum (M : List (List Int)) (σ : Nat → Nat) (v : List Int) : ∀ k, sumF (fun i => ent M i (σ i) - v.getD (σ i) 0) k + sumF (fun i => v.getD (σ i) 0) k = costF M σ k
  | 0 => rfl
  | k + 1 => by
    have := cost_sum M σ v k
    simp only [sumF, costF]
    omega

theorem rnds_even (hσ : Ins n σ) (v : List Int) : sumF (fun i => ent M i (σ i) - v.getD (σ i) 0) n + sumF (fun j => v.getD j 0) n = costF M σ n := by
  rw [← ins_sum hσ (fun j => v.getD j 0)]
  exact cost_sum M σ v n
end

end Go.Proofs.Ytmffbaclgbmnbaa
