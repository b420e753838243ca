/- Farkas's lemma (after Bartl): what is no sum of so much of rows lies beyond a plane that they don't cross (pure). -/
import Derived.Test.YtgfnmkenpgnllaaGreatNrm
namespace Go.Proofs.YtgfnmkenpgnllaaGreat
open Lin

/-- So much of each row, added: the j-th number. -/
def sm (t : List (Nat → Int)) (a : Nat → Int) (j : Nat) : Int := sumN t.length fun i => a i * (t.getD i fun _ => 0) j

theorem sumN_shift : ∀ (n : Nat) (f : Nat → Int), sumN (n + 1) f = f 0 + sumN n fun i => f (i + 1)
  | 0, f => by simp [sumN]
  | n + 1, f => by
    have h := sumN_shift n f
    show sumN (n + 1) f + f (n + 1) = f 0 + (sumN n (fun i => f (i + 1)) + f (n + 1))
    rw [h]; omega

theorem sm_cons (r : Nat → Int) (t : List (Nat → Int)) (a : Nat → Int) (j : Nat) : sm (r :: t) a j = a 0 * r j + sm t (fun i => a (i + 1)) j := by
  unfold sm
  rw [List.length_cons, sumN_shift]
  rfl

theorem sm_nil (a : Nat → Int) (j : Nat) : sm [] a j = 0 := rfl

theorem sm_lc (t : List (Nat → Int)) (x y : Int) (a b : Nat → Int) (j : Nat) : sm t (fun i => x * a i + y * b i) j = x * sm t a j + y * sm t b j := by
  unfold sm
  rw [← sumN_mul, ← sumN_mul, ← sumN_add]
  exact sumN_congr fun i _ => by grind

theorem sm_congr {t : List (Nat → Int)} {a b : Nat → Int} (h : ∀ i, i < t.length → a i = b i) (j : Nat) : sm t a j = sm t b j :=
  sumN_congr fun i hi => by rw [h i hi]

/-- A direction's product with a sum. -/
theorem dot_sm (d : Nat) (c : Nat → Int) (t : List (Nat → Int)) (a : Nat → Int) : dot d c (sm t a) = sumN t.length fun i => a i * dot d c (t.getD i fun _ => 0) := by
  unfold dot sm
  have : (fun j => c j * sumN t.length fun i => a i * (t.getD i fun _ => 0) j) = fun j => sumN t.length fun i => c j * (a i * (t.getD i fun _ => 0) j) := by
    funext j; rw [sumN_mul]
  rw [this, sumN_swap]
  refine sumN_congr fun i _ => ?_
  rw [← sumN_mul]
  exact sumN_congr fun j _ => by grind

theorem sumN_nonpos {n : Nat} {f : Nat → Int} (h : ∀ i, i < n → f i ≤ 0) : sumN n f ≤ 0 := by
  induction n with
  | zero => simp [sumN]
  | succ n ih =>
    have h1 := ih fun i hi => h i (by omega)
    have h2 := h n (by omega)
    show sumN n f + f n ≤ 0
    omega

theorem sumN_nonneg {n : Nat} {f : Nat → Int} (h : ∀ i, i < n → 0 ≤ f i) : 0 ≤ sumN n f := by
  induction n with
  | zero => simp [sumN]
  | succ n ih =>
    have h1 := ih fun i hi => h i (by omega)
    have h2 := h n (by omega)
    show 0 ≤ sumN n f + f n
    omega

theorem getD_memF {Z : List (Nat → Int)} {i : Nat} (h : i < Z.length) : (Z.getD i fun _ => 0) ∈ Z := by simp [h]

/-- The goal is a sum of so much of rows, from 0 on. -/
def InC (d : Nat) (Z : List (Nat → Int)) (g : Nat → Int) : Prop :=
  ∃ (s : Int) (a : Nat → Int), 0 < s ∧ (∀ i, i < Z.length → 0 ≤ a i) ∧ ∀ j, j < d → s * g j = sm Z a j

theorem farkas (d : Nat) : ∀ (n : Nat) (Z : List (Nat → Int)), Z.length = n → ∀ g : Nat → Int, InC d Z g ∨ ∃ c : Nat → Int, (∀ z ∈ Z, dot d c z ≤ 0) ∧ 0 < dot d c g := by
  intro n
  induction n with
  | zero =>
    intro Z hZ g
    have : Z = [] := List.eq_nil_of_length_eq_zero hZ
    subst this
    by_cases h : ∃ i, i < d ∧ g i ≠ 0
    · exact .inr ⟨g, fun z hz => by simp at hz, dot_pos h⟩
    · refine .inl ⟨1, fun _ => 0, by decide, fun i hi => by simp at hi, fun j hj => ?_⟩
      rw [sm_nil]
      have : g j = 0 := Classical.byContradiction fun hne => h ⟨j, hj, hne⟩
      rw [this]; rfl
  | succ n ih =>
    intro Z hZ g
    match Z, hZ with
    | z0 :: Z', hZ =>
      have hl : Z'.length = n := by simpa using hZ
      rcases ih Z' hl g with ⟨s, a, hs, ha, he⟩ | ⟨c, hc, hg⟩
      · refine .inl ⟨s, fun i => if i = 0 then 0 else a (i - 1), hs, fun i hi => ?_, fun j hj => ?_⟩
        · by_cases h0 : i = 0
          · simp [h0]
          · simp only [h0, if_false]
            exact ha _ (by simp at hi; omega)
        · rw [sm_cons, he j hj]
          simp
      · by_cases hz0 : dot d c z0 ≤ 0
        · exact .inr ⟨c, fun z hz => by
            rcases List.mem_cons.1 hz with rfl | hz
            · exact hz0
            · exact hc z hz, hg⟩
        · obtain ⟨p, hp⟩ : ∃ p, p = dot d c z0 := ⟨_, rfl⟩
          have hp0 : 0 < p := by omega
          rcases ih (Z'.map fun z => fun k => p * z k + (-(dot d c z)) * z0 k) (by simpa using hl) (fun k => p * g k + (-(dot d c g)) * z0 k) with ⟨s, a, hs, ha, he⟩ | ⟨e, h1, h2⟩
          · have key : ∀ j, sm (Z'.map fun z => fun k => p * z k + (-(dot d c z)) * z0 k) a j = p * sm Z' a j - dot d c (sm Z' a) * z0 j := by
              intro j
              rw [dot_sm]
              unfold sm
              rw [List.length_map, ← sumN_mul, ← sumN_mul_right, Int.sub_eq_add_neg, ← sumN_neg, ← sumN_add]
              refine sumN_congr fun i hi => ?_
              have e1 : (Z'.map fun z => fun k => p * z k + (-(dot d c z)) * z0 k).getD i (fun _ => 0) = fun k => p * (Z'.getD i fun _ => 0) k + (-(dot d c (Z'.getD i fun _ => 0))) * z0 k := by
                simp [hi]
              rw [e1]
              grind
            have hq : dot d c (sm Z' a) ≤ 0 := by
              rw [dot_sm]
              refine sumN_nonpos fun i hi => ?_
              exact Int.mul_nonpos_of_nonneg_of_nonpos (ha i (by simpa using hi)) (hc _ (getD_memF hi))
            refine .inl ⟨s * p, fun i => if i = 0 then s * dot d c g - dot d c (sm Z' a) else p * a (i - 1), Int.mul_pos hs hp0, fun i hi => ?_, fun j hj => ?_⟩
            · by_cases h0 : i = 0
              · simp only [h0, if_true]
                have := Int.mul_pos hs hg
                omega
              · simp only [h0, if_false]
                exact Int.mul_nonneg (Int.le_of_lt hp0) (ha _ (by simp at hi ⊢; omega))
            · have h3 := he j hj
              rw [key j] at h3
              rw [sm_cons]
              have e2 : sm Z' (fun i => if i + 1 = 0 then s * dot d c g - dot d c (sm Z' a) else p * a (i + 1 - 1)) j = p * sm Z' a j := by
                have := sm_lc Z' p 0 a a j
                rw [Int.zero_mul, Int.add_zero] at this
                rw [← this]
                exact sm_congr (fun i _ => by simp) j
              rw [e2]
              simp only [if_true]
              grind
          · refine .inr ⟨fun k => p * e k + (-(dot d e z0)) * c k, fun z hz => ?_, ?_⟩
            · rw [dot_lc]
              rcases List.mem_cons.1 hz with rfl | hz
              · rw [← hp]; have : p * dot d e z + -dot d e z * p = 0 := by grind
                omega
              · have h3 := h1 _ (List.mem_map.2 ⟨z, hz, rfl⟩)
                rw [dot_comm, dot_lc, dot_comm d z, dot_comm d z0] at h3
                have : p * dot d e z + -dot d e z0 * dot d c z = p * dot d e z + -dot d c z * dot d e z0 := by grind
                omega
            · rw [dot_lc]
              rw [dot_comm, dot_lc, dot_comm d g, dot_comm d z0] at h2
              have : p * dot d e g + -dot d e z0 * dot d c g = p * dot d e g + -dot d c g * dot d e z0 := by grind
              omega

end Go.Proofs.YtgfnmkenpgnllaaGreat
