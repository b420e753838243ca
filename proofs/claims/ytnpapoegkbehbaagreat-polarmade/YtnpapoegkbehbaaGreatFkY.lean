import Derived.Test.YtnpapoegkbehbaaGreatWyY
import Derived.Test.YtnpapoegkbehbaaGreatWysA
import Derived.Test.YtnpapoegkbehbaaGreatWiA
import Derived.Test.YtnpapoegkbehbaaGreatRefY
import Derived.Test.YtnpapoegkbehbaaGreatRowB
import Derived.Test.YtnpapoegkbehbaaGreatRowA
import Derived.Test.YtnpapoegkbehbaaGreatDatA
import Derived.Deep.OwnRows
import Derived.Test.YtnpapoegkbehbaaGreatRefA
/- Farkas's lemma (after Bartl): what is no sum of so much of rows lies beyond a plane that they don't cross (pure). -/
namespace Go.Proofs.YtnpapoegkbehbaaGreat
open Lin

/-- So much of each row, added: the j-th number. -/
def sm (t : List (Nat → Int)) (a : Nat → Int) (j : Nat) : Int := sumN t.length fun i => a i * (t.getD i fun _ => 0) j

theorem sumN_shift : ∀ (n : Nat) (f : Nat → Int), sumN (n + 1) f = f 0 + sumN n fun i => f (i + 1)
  | 0, f => by simp [sumN]
  | n + 1, f => by
    have h := sumN_shift n f
    show sumN (n + 1) f + f (n + 1) = f 0 + (sumN n (fun i => f (i + 1)) + f (n + 1))
    rw [h]; omega

theorem sm_cons (r : Nat → Int) (t : List (Nat → Int)) (a : Nat → Int) (j : Nat) : sm (r :: t) a j = a 0 * r j + sm t (fun i => a (i + 1)) j := by
  unfold sm
  rw [List.length_cons, sumN_shift]
  rfl

theorem sm_nil (a : Nat → Int) (j : Nat) : sm [] a j = 0 := rfl

theorem sm_lc (t : List (Nat → Int)) (x y : Int) (a b : Nat → Int) (j : Nat) : sm t (fun i => x * a i + y * b i) j = x * sm t a j + y * sm t b j := by
  unfold sm
  rw [← sumN_mul, ← sumN_mul, ← sumN_add]
  exact sumN_congr fun i _ => by grind

theorem sm_congr {t : List (Nat → Int)} {a b : Nat → Int} (h : ∀ i, i < t.length → a i = b i) (j : Nat) : sm t a j = sm t b j :=
  sumN_congr fun i hi => by rw [h i hi]

/-- A direction's product with a sum. -/
theorem dot_sm (d : Nat) (c : Nat → Int) (t : List (Nat → Int)) (a : Nat → Int) : dot d c (sm t a) = sumN t.length fun i => a i * dot d c (t.getD i fun _ => 0) := by
  unfold dot sm
  have : (fun j => c j * sumN t.length fun i => a i * (t.getD i fun _ => 0) j) = fun j => sumN t.length fun i => c j * (a i * (t.getD i fun _ => 0) j) := by
    funext j; rw [sumN_mul]
  rw [this, sumN_swap]
  refine sumN_congr fun i _ => ?_
  rw [← sumN_mul]
  exact sumN_congr fun j _ => by grind

theorem sumN_nonpos {n : Nat} {f : Nat → Int} (h : ∀ i, i < n → f i ≤ 0) : sumN n f ≤ 0 := by
  induction n with
  | zero => simp [sumN]
  | succ n ih =>
    have h1 := ih fun i hi => h i (by omega)
    have h2 := h n (by omega)
    show sumN n f + f n ≤ 0
    omega

theorem sumN_nonneg {n : Nat} {f : Nat → Int} (h : ∀ i, i < n → 0 ≤ f i) : 0 ≤ sumN n f := by
  induction n with
  | zero => simp [sumN]
  | succ n ih =>
    have h1 := ih fun i hi => h i (by omega)
    have h2 := h n (by omega)
    show 0 ≤ sumN n f + f n
    omega

theorem getD_memF {Z : List (Nat → Int)} {i : Nat} (h : i < Z.length) : (Z.getD i fun _ => 0) ∈ Z := by simp [h]

/-- The goal is a sum of so much of rows, from 0 on. -/
def InC (d : Nat) (Z : List (Nat → Int)) (g : Nat → Int) : Prop :=
  ∃ (s : Int) (a : Nat → Int), 0 < s ∧ (∀ i, i < Z.length → 0 ≤ a i) ∧ ∀ j, j < d → s * g j = sm Z a j

theorem farkas (d : Nat) : ∀ (n : Nat) (Z : List (Nat → Int)), Z.length = n → ∀ g : Nat → Int, InC d Z g ∨ ∃ c : Nat → Int, (∀ z ∈ Z, dot d c z ≤ 0) ∧ 0 < dot d c g := by
  intro n
  induction n with
  | zero =>
    intro Z hZ g
    have : Z = [] := List.eq_nil_of_length_eq_zero hZ
    subst this
    by_cases h : ∃ i, i < d ∧ g i ≠ 0
    · exact .inr ⟨g, fun z hz => by simp at hz, dot_pos h⟩
    · refine .inl ⟨1, fun _ => 0, by decide, fun i hi => by simp at hi, fun j hj => ?_⟩
      rw [sm_nil]
      have : g j = 0 := Classical.byContradiction fun hne => h ⟨j, hj, hne⟩
      rw [this]; rfl
  | succ n ih =>
    intro Z hZ g
    match Z, hZ with
    | z0 :: Z', hZ =>
      have hl : Z'.length = n := by simpa using hZ
      rcases ih Z' hl g with ⟨s, a, hs, ha, he⟩ | ⟨c, hc, hg⟩
      · refine .inl ⟨s, fun i => if i = 0 then 0 else a (i - 1), hs, fun i hi => ?_, fun j hj => ?_⟩
        · by_cases h0 : i = 0
          · simp [h0]
          · simp only [h0, if_false]
            exact ha _ (by simp at hi; omega)
        · rw [sm_cons, he j hj]
          simp
      · by_cases hz0 : dot d c z0 ≤ 0
        · exact .inr ⟨c, fun z hz => by
            rcases List.mem_cons.1 hz with rfl | hz
            · exact hz0
            · exact hc z hz, hg⟩
        · obtain ⟨p, hp⟩ : ∃ p, p = dot d c z0 := ⟨_, rfl⟩
          have hp0 : 0 < p := by omega
          rcases ih (Z'.map fun z => fun k => p * z k + (-(dot d c z)) * z0 k) (by simpa using hl) (fun k => p * g k + (-(dot d c g)) * z0 k) with ⟨s, a, hs, ha, he⟩ | ⟨e, h1, h2⟩
          · have key : ∀ j, sm (Z'.map fun z => fun k => p * z k + (-(dot d c z)) * z0 k) a j = p * sm Z' a j - dot d c (sm Z' a) * z0 j := by
              intro j
              rw [dot_sm]
              unfold sm
              rw [List.length_map, ← sumN_mul, ← sumN_mul_right, Int.sub_eq_add_neg, ← sumN_neg, ← sumN_add]
              refine sumN_congr fun i hi => ?_
              have e1 : (Z'.map fun z => fun k => p * z k + (-(dot d c z)) * z0 k).getD i (fun _ => 0) = fun k => p * (Z'.getD i fun _ => 0) k + (-(dot d c (Z'.getD i fun _ => 0))) * z0 k := by
                simp [hi]
              rw [e1]
              grind
            have hq : dot d c (sm Z' a) ≤ 0 := by
              rw [dot_sm]
              refine sumN_nonpos fun i hi => ?_
              exact Int.mul_nonpos_of_nonneg_of_nonpos (ha i (by simpa using hi)) (hc _ (getD_memF hi))
            refine .inl ⟨s * p, fun i => if i = 0 then s * dot d c g - dot d c (sm Z' a) else p * a (i - 1), Int.mul_pos hs hp0, fun i hi => ?_, fun j hj => ?_⟩
            · by_cases h0 : i = 0
              · simp only [h0, if_true]
                have := Int.mul_pos hs hg
                omega
              · simp only [h0, if_false]
                exact Int.mul_nonneg (Int.le_of_lt hp0) (ha _ (by simp at hi ⊢; omega))
            · have h3 := he j hj
              rw [key j] at h3
              rw [sm_cons]
              have e2 : sm Z' (fun i => if i + 1 = 0 then s * dot d c g - dot d c (sm Z' a) else p * a (i + 1 - 1)) j = p * sm Z' a j := by
                have := sm_lc Z' p 0 a a j
                rw [Int.zero_mul, Int.add_zero] at this
                rw [← this]
                exact sm_congr (fun i _ => by simp) j
              rw [e2]
              simp only [if_true]
              grind
          · refine .inr ⟨fun k => p * e k + (-(dot d e z0)) * c k, fun z hz => ?_, ?_⟩
            · rw [dot_lc]
              rcases List.mem_cons.1 hz with rfl | hz
              · rw [← hp]; have : p * dot d e z + -dot d e z * p = 0 := by grind
                omega
              · have h3 := h1 _ (List.mem_map.2 ⟨z, hz, rfl⟩)
                rw [dot_comm, dot_lc, dot_comm d z, dot_comm d z0] at h3
                have : p * dot d e z + -dot d e z0 * dot d c z = p * dot d e z + -dot d c z * dot d e z0 := by grind
                omega
            · rw [dot_lc]
              rw [dot_comm, dot_lc, dot_comm d g, dot_comm d z0] at h2
              have : p * dot d e g + -dot d e z0 * dot d c g = p * dot d e g + -dot d c g * dot d e z0 := by grind
              omega

end Go.Proofs.YtnpapoegkbehbaaGreat

/- Caratheodory: a goal that is a sum of so much of rows is one of rows that don't hang on each other, and says no more (pure). -/
namespace Go.Proofs.YtnpapoegkbehbaaGreat
open Lin

/-- So much of each row, added: the j-th number. -/
def sv (t : List (List Int)) (a : Nat → Int) (j : Nat) : Int := sm (t.map V) a j

theorem sv_eq (t : List (List Int)) (a : Nat → Int) (j : Nat) : sv t a j = sumN t.length fun i => a i * V (t.getD i []) j := by
  unfold sv sm
  rw [List.length_map]
  refine sumN_congr fun i hi => ?_
  have : (t.map V).getD i (fun _ => 0) = V (t.getD i []) := by simp [hi]
  rw [this]

theorem sv_lc (t : List (List Int)) (x y : Int) (a b : Nat → Int) (j : Nat) : sv t (fun i => x * a i + y * b i) j = x * sv t a j + y * sv t b j := sm_lc _ x y a b j

theorem sv_congr {t : List (List Int)} {a b : Nat → Int} (h : ∀ i, i < t.length → a i = b i) (j : Nat) : sv t a j = sv t b j := sm_congr (fun i hi => h i (by simpa using hi)) j

theorem sv_cons (r : List Int) (t : List (List Int)) (a : Nat → Int) (j : Nat) : sv (r :: t) a j = a 0 * V r j + sv t (fun i => a (i + 1)) j := sm_cons _ _ _ _

/-- What is taken 0 times is let go. -/
theorem filt : ∀ (t : List (List Int)) (b : Nat → Int), (∀ i, i < t.length → 0 ≤ b i) → ∃ t' a', t'.Sublist t ∧ (∀ i, i < t'.length → 0 < a' i) ∧ (∀ j, sv t' a' j = sv t b j) ∧ ((∃ i, i < t.length ∧ b i = 0) → t'.length < t.length)
  | [], b, _ => ⟨[], b, List.Sublist.refl _, fun i hi => by simp at hi, fun _ => rfl, fun ⟨i, hi, _⟩ => by simp at hi⟩
  | r :: t, b, h => by
    obtain ⟨t', a', h1, h2, h3, h4⟩ := filt t (fun i => b (i + 1)) fun i hi => h (i + 1) (by simpa using hi)
    have hl := h1.length_le
    by_cases h0 : b 0 = 0
    · refine ⟨t', a', h1.cons r, h2, fun j => ?_, fun _ => by simp; omega⟩
      rw [sv_cons, h0, h3]; omega
    · have hp : 0 < b 0 := by have := h 0 (by simp); omega
      refine ⟨r :: t', fun i => if i = 0 then b 0 else a' (i - 1), h1.cons_cons r, fun i hi => ?_, fun j => ?_, fun ⟨i, hi, hz⟩ => ?_⟩
      · by_cases e : i = 0
        · simp [e, hp]
        · simp only [e, if_false]
          exact h2 _ (by simp at hi; omega)
      · rw [sv_cons, sv_cons]
        simp only [if_true]
        rw [← h3 j]
        congr 1
      · have : i ≠ 0 := fun e => h0 (by rw [← e]; exact hz)
        have := h4 ⟨i - 1, by simp at hi; omega, by rw [show i - 1 + 1 = i by omega]; exact hz⟩
        simp; omega

theorem acr_sm (t : List (List Int)) (g : List Int) (a : Nat → Int) (j : Nat) : dot (t.length + 1) (V (acrR t g j)) a = sv t a j - a t.length * V g j := by
  have e1 : ∀ i, i < t.length → V (acrR t g j) i = V (t.getD i []) j := fun i hi => by
    have ht : i < (t.map fun r => r.getD j 0).length := by simpa using hi
    unfold V acrR
    rw [List.getD_eq_getElem?_getD, List.getElem?_append_left ht]
    simp [hi]
  have e2 : V (acrR t g j) t.length = -(V g j) := by
    unfold V acrR
    rw [List.getD_eq_getElem?_getD, List.getElem?_append_right (by simp)]; simp
  rw [sv_eq]
  unfold dot
  show sumN t.length _ + V (acrR t g j) t.length * a t.length = _
  rw [e2, sumN_congr (g := fun i => a i * V (t.getD i []) j) fun i hi => by rw [e1 i hi]; exact Int.mul_comm _ _]
  grind

theorem rep_iff {t : List (List Int)} {g : List Int} {a : Nat → Int} : (∀ r ∈ acrL g t, dot (t.length + 1) (V r) a = 0) ↔ ∀ j, j < g.length → sv t a j = a t.length * V g j := by
  constructor
  · intro h j hj
    have := h (acrR t g j) (by simp only [acrL, List.mem_map, List.mem_range]; exact ⟨j, hj, rfl⟩)
    rw [acr_sm] at this
    omega
  · intro h r hr
    simp only [acrL, List.mem_map, List.mem_range] at hr
    obtain ⟨j, hj, rfl⟩ := hr
    rw [acr_sm, h j hj]; omega

theorem way_iff {g : List Int} {t : List (List Int)} : wayB g t = true ↔ ∃ a : Nat → Int, (∀ i, i < t.length + 1 → 0 < a i) ∧ (∀ j, j < g.length → sv t a j = a t.length * V g j) ∧ ∀ u : Nat → Int, (∀ j, j < g.length → sv t u j = u t.length * V g j) → Par (t.length + 1) u a := by
  rw [wayB_iff]
  constructor
  · rintro ⟨a, h1, h2, h3⟩
    exact ⟨a, h1, rep_iff.1 h2, fun u hu => h3 u (rep_iff.2 hu)⟩
  · rintro ⟨a, h1, h2, h3⟩
    exact ⟨a, h1, rep_iff.2 h2, fun u hu => h3 u (rep_iff.1 hu)⟩

theorem way_short {g : List Int} {t : List (List Int)} (h : wayB g t = true) : t.length ≤ g.length := by
  obtain ⟨a, hpos, _, hpar⟩ := wayB_iff.1 h
  apply Classical.byContradiction
  intro hn
  obtain ⟨v, ⟨i, hi, hne⟩, hv⟩ := orth_some (t.length + 1) ((acrL g t).map V ++ [unit t.length]) (by simp [acrL]; omega)
  have h0 : v t.length = 0 := by
    have := hv (unit t.length) (by simp)
    rwa [dot_unit (by omega)] at this
  have h1 := hpar v (fun r hr => hv (V r) (List.mem_append_left _ (List.mem_map.2 ⟨r, hr, rfl⟩))) i t.length hi (by omega)
  rw [h0, Int.zero_mul] at h1
  have := hpos t.length (by omega)
  rcases Int.mul_eq_zero.1 h1 with h | h
  · exact hne h
  · omega

theorem ways_some {rows : List (List Int)} {g : List Int} : waysL rows g ≠ [] ↔ ∃ t, t.Sublist rows ∧ wayB g t = true := by
  constructor
  · intro h
    cases hw : waysL rows g with
    | nil => exact absurd hw h
    | cons c l =>
      have hm : c ∈ waysL rows g := by rw [hw]; simp
      simp only [waysL, waysTo, List.mem_flatMap, List.mem_range, List.mem_filter] at hm
      obtain ⟨m, hm1, hm2, hm3⟩ := hm
      have hx := chz_ext rows [] m 0
      rw [List.drop_zero] at hx
      have : pks rows [] c ∈ chz m rows := by rw [← hx]; exact List.mem_map.2 ⟨c, hm2, rfl⟩
      exact ⟨_, (chz_mem.1 this).1, hm3⟩
  · rintro ⟨t, hs, hw⟩
    have hx := chz_ext rows [] t.length 0
    rw [List.drop_zero] at hx
    have hm : t ∈ chz t.length rows := chz_mem.2 ⟨hs, rfl⟩
    rw [← hx] at hm
    obtain ⟨c, hc, he⟩ := List.mem_map.1 hm
    have : c ∈ waysL rows g := by
      simp only [waysL, waysTo, List.mem_flatMap, List.mem_range, List.mem_filter]
      refine ⟨t.length, ?_, hc, by rw [he]; exact hw⟩
      have := hs.length_le
      have := way_short hw
      omega
    intro h
    rw [h] at this; cases this

theorem cara {rows : List (List Int)} {g : List Int} (hcyc : ∀ t : List (List Int), t.Sublist rows → ∀ w : Nat → Int, (∀ i, i < t.length → 0 ≤ w i) → (∀ j, j < g.length → sv t w j = 0) → 0 ≤ sv t w g.length) :
    ∀ (n : Nat) (t : List (List Int)) (a : Nat → Int), t.length ≤ n → t.Sublist rows → (∀ i, i < t.length + 1 → 0 < a i) → (∀ j, j < g.length → sv t a j = a t.length * V g j) →
    ∃ t' a', t'.Sublist rows ∧ wayB g t' = true ∧ (∀ i, i < t'.length + 1 → 0 < a' i) ∧ (∀ j, j < g.length → sv t' a' j = a' t'.length * V g j) ∧ sv t' a' g.length * a t.length ≤ sv t a g.length * a' t'.length := by
  intro n
  induction n with
  | zero =>
    intro t a hn hs hp hr
    by_cases hk : ∀ u : Nat → Int, (∀ j, j < g.length → sv t u j = u t.length * V g j) → Par (t.length + 1) u a
    · exact ⟨t, a, hs, way_iff.2 ⟨a, hp, hr, hk⟩, hp, hr, Int.le_refl _⟩
    · exfalso
      apply hk
      intro u _ i j hi hj
      have : i = 0 := by omega
      have : j = 0 := by omega
      subst i; subst j; rfl
  | succ n ih =>
    intro t a hn hs hp hr
    by_cases hk : ∀ u : Nat → Int, (∀ j, j < g.length → sv t u j = u t.length * V g j) → Par (t.length + 1) u a
    · exact ⟨t, a, hs, way_iff.2 ⟨a, hp, hr, hk⟩, hp, hr, Int.le_refl _⟩
    · have : ∃ u : Nat → Int, (∀ j, j < g.length → sv t u j = u t.length * V g j) ∧ ¬ Par (t.length + 1) u a := Classical.byContradiction fun h => hk fun u hu => Classical.byContradiction fun hne => h ⟨u, hu, hne⟩
      obtain ⟨u, hu, hnp⟩ := this
      have haN := hp t.length (by omega)
      have hw : ∃ w : Nat → Int, (∀ j, j < g.length → sv t w j = 0) ∧ ∃ i, i < t.length ∧ w i ≠ 0 := by
        refine ⟨fun i => a t.length * u i + (-(u t.length)) * a i, fun j hj => ?_, ?_⟩
        · rw [sv_lc, hu j hj, hr j hj]; grind
        · apply Classical.byContradiction
          intro hno
          apply hnp
          have hz : ∀ i, i < t.length + 1 → a t.length * u i = u t.length * a i := fun i hi => by
            by_cases e : i = t.length
            · rw [e]; exact Int.mul_comm _ _
            · have : a t.length * u i + (-(u t.length)) * a i = 0 := Classical.byContradiction fun hne => hno ⟨i, by omega, hne⟩
              grind
          intro i j hi hj
          have e : a t.length * (u i * a j - u j * a i) = 0 := by
            have h1 := hz i hi
            have h2 := hz j hj
            have : a t.length * (u i * a j - u j * a i) = (a t.length * u i) * a j - (a t.length * u j) * a i := by grind
            rw [this, h1, h2]; grind
          rcases Int.mul_eq_zero.1 e with h | h
          · omega
          · omega
      have hw2 : ∃ w : Nat → Int, (∀ j, j < g.length → sv t w j = 0) ∧ (∃ i, i < t.length ∧ 0 < w i) ∧ 0 ≤ sv t w g.length := by
        obtain ⟨w, h1, i0, hi0, hne⟩ := hw
        have hneg : ∀ j, sv t (fun i => - w i) j = - sv t w j := fun j => by
          have := sv_lc t (-1) 0 w w j
          rw [show (fun i => (-1 : Int) * w i + 0 * w i) = fun i => - w i by funext i; omega] at this
          rw [this]; omega
        by_cases hb : 0 ≤ sv t w g.length
        · by_cases hpw : ∃ i, i < t.length ∧ 0 < w i
          · exact ⟨w, h1, hpw, hb⟩
          · have hall : ∀ i, i < t.length → 0 ≤ - w i := fun i hi => by
              have : ¬ 0 < w i := fun h => hpw ⟨i, hi, h⟩
              omega
            refine ⟨fun i => - w i, fun j hj => by rw [hneg, h1 j hj]; rfl, ⟨i0, hi0, by have := hall i0 hi0; show 0 < - w i0; omega⟩, ?_⟩
            exact hcyc t hs _ hall fun j hj => by rw [hneg, h1 j hj]; rfl
        · by_cases hpw : ∃ i, i < t.length ∧ w i < 0
          · obtain ⟨i, hi, hlt⟩ := hpw
            exact ⟨fun i => - w i, fun j hj => by rw [hneg, h1 j hj]; rfl, ⟨i, hi, by show 0 < - w i; omega⟩, by rw [hneg]; omega⟩
          · have hall : ∀ i, i < t.length → 0 ≤ w i := fun i hi => by
              have : ¬ w i < 0 := fun h => hpw ⟨i, hi, h⟩
              omega
            exact ⟨w, h1, ⟨i0, hi0, by have := hall i0 hi0; omega⟩, hcyc t hs w hall h1⟩
      obtain ⟨w, h1, ⟨i0, hi0, hp0⟩, hb⟩ := hw2
      obtain ⟨i1, hi1, hle⟩ := least_ratio (f := a) (g := w) (X := (List.range t.length).filter fun i => decide (0 < w i)) (by
          intro he
          have : i0 ∈ (List.range t.length).filter fun i => decide (0 < w i) := by simp [hi0, hp0]
          rw [he] at this; simp at this) (fun z hz => by simpa using (List.mem_filter.1 hz).2)
      have hi1l : i1 < t.length := by simpa using (List.mem_filter.1 hi1).1
      have hw1 : 0 < w i1 := by simpa using (List.mem_filter.1 hi1).2
      have ha1 := hp i1 (by omega)
      have hbn : ∀ i, i < t.length → 0 ≤ w i1 * a i + (-(a i1)) * w i := fun i hi => by
        have hai := hp i (by omega)
        by_cases hwi : 0 < w i
        · have := hle i (by simp [hi, hwi])
          have e : w i1 * a i + (-(a i1)) * w i = a i * w i1 - a i1 * w i := by grind
          omega
        · have e1 : 0 ≤ w i1 * a i := Int.mul_nonneg (by omega) (by omega)
          have e2 : 0 ≤ a i1 * (- w i) := Int.mul_nonneg (by omega) (by omega)
          have e3 : (-(a i1)) * w i = a i1 * (- w i) := by grind
          omega
      obtain ⟨t2, a2, g1, g2, g3, g4⟩ := filt t (fun i => w i1 * a i + (-(a i1)) * w i) hbn
      have hlt := g4 ⟨i1, hi1l, by grind⟩
      have hs2 : 0 < w i1 * a t.length := Int.mul_pos hw1 haN
      obtain ⟨t', a', k1, k2, k3, k4, k5⟩ := ih t2 (fun i => if i = t2.length then w i1 * a t.length else a2 i) (by omega) (g1.trans hs) (fun i hi => by
          by_cases e : i = t2.length
          · simp only [e, if_true]; exact hs2
          · simp only [e, if_false]; exact g2 i (by omega)) (fun j hj => by
          simp only [if_true]
          rw [sv_congr (b := a2) (fun i hi => by rw [if_neg (by omega)]), g3, sv_lc, h1 j hj, hr j hj]
          grind)
      refine ⟨t', a', k1, k2, k3, k4, ?_⟩
      simp only [if_true] at k5
      rw [sv_congr (t := t2) (b := a2) (fun i hi => by rw [if_neg (by omega)]), g3, sv_lc] at k5
      have hA' := k3 t'.length (by omega)
      have hprod : 0 ≤ a i1 * sv t w g.length * a' t'.length := Int.mul_nonneg (Int.mul_nonneg (by omega) hb) (by omega)
      have k6 : w i1 * (sv t' a' g.length * a t.length) ≤ w i1 * (sv t a g.length * a' t'.length) := by
        have e1 : w i1 * (sv t' a' g.length * a t.length) = sv t' a' g.length * (w i1 * a t.length) := by grind
        have e2 : (w i1 * sv t a g.length + -a i1 * sv t w g.length) * a' t'.length = w i1 * (sv t a g.length * a' t'.length) - a i1 * sv t w g.length * a' t'.length := by grind
        omega
      exact Int.le_of_mul_le_mul_left k6 hw1

/-- There is no way just if a direction that rises with no row rises with the goal. -/
theorem ways_none {rows : List (List Int)} {g : List Int} : waysL rows g = [] ↔ ∃ c : Nat → Int, (∀ r ∈ rows, dot g.length c (V r) ≤ 0) ∧ 0 < dot g.length c (V g) := by
  constructor
  · intro h
    rcases farkas g.length _ (rows.map V) rfl (V g) with ⟨s, a, hs, ha, he⟩ | ⟨c, h1, h2⟩
    · exfalso
      refine (ways_some (rows := rows) (g := g)).2 ?_ h
      -- the rows cut to the goal's numbers say nothing behind them
      have hcut : ∃ t, t.Sublist (rows.map fun r => r.take g.length) ∧ wayB g t = true := by
        obtain ⟨t, a2, g1, g2, g3, _⟩ := filt (rows.map fun r => r.take g.length) a fun i hi => ha i (by simpa using hi)
        have hrep : ∀ j, j < g.length → sv (rows.map fun r => r.take g.length) a j = s * V g j := fun j hj => by
          rw [he j hj, sv_eq]
          unfold sm
          rw [List.length_map, List.length_map]
          refine sumN_congr fun i hi => ?_
          have e1 : (rows.map fun r => r.take g.length).getD i [] = (rows.getD i []).take g.length := by simp [hi]
          have e2 : (rows.map V).getD i (fun _ => 0) = V (rows.getD i []) := by simp [hi]
          rw [e1, e2]
          congr 1
          unfold V
          generalize rows.getD i [] = r
          rw [List.getD_eq_getElem?_getD, List.getElem?_take_of_lt hj, List.getD_eq_getElem?_getD]
        obtain ⟨t', _, k1, k2, _⟩ := cara (rows := rows.map fun r => r.take g.length) (g := g) (fun t ht w _ _ => by
            have : sv t w g.length = 0 := by
              rw [sv_eq]
              refine sumN_zero fun i hi => ?_
              have hm : t.getD i [] ∈ t := by simp [hi]
              obtain ⟨r, _, hr⟩ := List.mem_map.1 (ht.subset hm)
              have : V (t.getD i []) g.length = 0 := by
                rw [← hr]
                unfold V
                rw [List.getD_eq_getElem?_getD, List.getElem?_eq_none (by simp; omega)]; rfl
              rw [this, Int.mul_zero]
            omega) t.length t (fun i => if i = t.length then s else a2 i) (Nat.le_refl _) g1 (fun i hi => by
            by_cases e : i = t.length
            · simp only [e, if_true]; exact hs
            · simp only [e, if_false]; exact g2 i (by omega)) (fun j hj => by
            simp only [if_true]
            rw [sv_congr (b := a2) (fun i hi => by rw [if_neg (by omega)]), g3, hrep j hj])
        exact ⟨t', k1, k2⟩
      obtain ⟨t', k1, k2⟩ := hcut
      obtain ⟨t0, ht0, he0⟩ := List.sublist_map_iff.1 k1
      refine ⟨t0, ht0, ?_⟩
      rw [he0] at k2
      have e : acrL g (t0.map fun r => r.take g.length) = acrL g t0 := by
        unfold acrL
        refine List.map_congr_left fun j hj => ?_
        rw [List.mem_range] at hj
        unfold acrR
        rw [List.map_map]
        congr 1
        refine List.map_congr_left fun r _ => ?_
        show (r.take g.length).getD j 0 = r.getD j 0
        rw [List.getD_eq_getElem?_getD, List.getElem?_take_of_lt hj, List.getD_eq_getElem?_getD]
      unfold wayB wayN at k2 ⊢
      rw [e, List.length_map] at k2
      exact k2
    · exact ⟨c, fun r hr => h1 _ (List.mem_map.2 ⟨r, hr, rfl⟩), h2⟩
  · rintro ⟨c, h1, h2⟩
    apply Classical.byContradiction
    intro hne
    obtain ⟨t, hs, hw⟩ := ways_some.1 hne
    obtain ⟨a, hp, hr, _⟩ := way_iff.1 hw
    have h3 : dot g.length c (sv t a) = a t.length * dot g.length c (V g) := by
      have : dot g.length c (sv t a) = dot g.length c (fun j => a t.length * V g j) := dot_congr (fun _ _ => rfl) hr
      rw [this]
      unfold dot
      rw [← sumN_mul]
      exact sumN_congr fun i _ => by grind
    have h4 : dot g.length c (sv t a) ≤ 0 := by
      have := dot_sm g.length c (t.map V) a
      show dot g.length c (sm (t.map V) a) ≤ 0
      rw [this, List.length_map]
      refine sumN_nonpos fun i hi => ?_
      have e2 : (t.map V).getD i (fun _ => 0) = V (t.getD i []) := by simp [hi]
      rw [e2]
      exact Int.mul_nonpos_of_nonneg_of_nonpos (Int.le_of_lt (hp i (by omega))) (h1 _ (hs.subset (by simp [hi])))
    have := Int.mul_pos (hp t.length (by omega)) h2
    omega

end Go.Proofs.YtnpapoegkbehbaaGreat

/- half.Check and half.Empty, of cuts that may be. -/
namespace Go.Proofs.YtnpapoegkbehbaaGreat
open Go.RowKit

/-- A cut that may be, of few dimensions. -/
structure CutOk (d : Nat) (rows : List (List Int)) : Prop where
  d1 : 1 ≤ d
  d3 : d ≤ 3
  n12 : rows.length ≤ 12
  len : ∀ r ∈ rows, r.length = d + 1
  bd : ∀ r ∈ rows, ∀ z ∈ r, z.natAbs ≤ 20

/-- Nothing is in it: there is a way in which rows say that 0 is below 0. -/
def empB (d : Nat) (rows : List (List Int)) : Bool := !(waysL rows (refG d)).isEmpty

theorem far_no {r : List Int} {n : Nat} (h : ∀ z ∈ r, z.natAbs ≤ n) : r.any (farB · n) = false := by
  rw [List.any_eq_false]
  intro z hz
  have := h z hz
  simp [farB]
  omega

set_option maxRecDepth 100000 in
set_option maxHeartbeats 400000 in
theorem list_ok (B : Nat) (r : List Int) (v : Value) (many : Int) (w : World) (hv : Sl B 3 w v (ints r)) (hd : (r.length : Int) = many) (hn : r.any (farB · 20) = false) :
    Calls Tryz.prog 53 #[v, .int .i64 many, .int .i64 20] w fun e w' => e = .returned (.int .i64 0) ∧ Below w.heap.size w w' := by
  subst hd
  refine (chkL_any B r.length 20 r v w hv (by decide) (by decide)).mono ?_
  rintro e w1 ⟨rfl, hb1⟩
  rw [hn]
  exact ⟨by simp, hb1⟩

end Go.Proofs.YtnpapoegkbehbaaGreat

/- What a choice of rows gives: the place where they are met, if there is one alone and it keeps all rows (pure). -/
namespace Go.Proofs.YtnpapoegkbehbaaGreat

/-- A row whose last number has the other sign. -/
def ngR (d : Nat) (r : List Int) : List Int := r.take d ++ [-(r.getD d 0)]

theorem ngR_len {d : Nat} {r : List Int} (h : r.length = d + 1) : (ngR d r).length = d + 1 := by simp [ngR, h]

theorem ngR_get {d i : Nat} {r : List Int} (h : r.length = d + 1) (hi : i < d + 1) : (ngR d r).getD i 0 = if i = d then -(r.getD d 0) else r.getD i 0 := by
  unfold ngR
  by_cases e : i = d
  · subst e
    rw [if_pos rfl]
    simp [List.getD_eq_getElem?_getD, h]
  · rw [if_neg e]
    have hi2 : i < (r.take d).length := by simp [h]; omega
    rw [List.getD_eq_getElem?_getD, List.getElem?_append_left hi2, List.getElem?_take_of_lt (by omega), ← List.getD_eq_getElem?_getD]

/-- What a choice of rows gives: the place where they are met, if there is one alone and it keeps all rows. -/
def ptY (d : Nat) (t : List (List Int)) : List Int :=
  if (normL (d + 1) (t.map (ngR d))).getD d 0 < 0 then (normL (d + 1) (t.map (ngR d))).map (fun z => -z) else normL (d + 1) (t.map (ngR d))

def ptK (R : List (List Int)) (d : Nat) (y : List Int) : Bool := R.all fun r => decide (dotL (r.take d) y ≤ r.getD d 0 * y.getD d 0)

def ptT (R : List (List Int)) (d : Nat) (t : List (List Int)) : Option (List Int) :=
  if normB (d + 1) (t.map (ngR d)) = true ∧ (normL (d + 1) (t.map (ngR d))).getD d 0 ≠ 0 ∧ ptK R d (ptY d t) = true then some (ptY d t) else none

def ptsTo (R : List (List Int)) (d : Nat) (C : List (List Int)) (i : Nat) : List (List Int) := (C.take i).flatMap fun c => (ptT R d (pks R [] c)).toList
def ptsD (R : List (List Int)) (d : Nat) : List (List Int) := (chosenL d R.length).flatMap fun c => (ptT R d (pks R [] c)).toList

theorem ptsTo_succ (R C : List (List Int)) (d i : Nat) (h : i < C.length) : ptsTo R d C (i + 1) = ptsTo R d C i ++ (ptT R d (pks R [] (C.getD i []))).toList := by
  unfold ptsTo
  have e : C.getD i [] = C[i] := by simp [h]
  rw [List.take_succ_eq_append_getElem h, List.flatMap_append, e]
  simp

theorem ptsTo_len (R C : List (List Int)) (d : Nat) : ∀ i, (ptsTo R d C i).length ≤ i := by
  intro i
  induction i with
  | zero => simp [ptsTo]
  | succ i ih =>
    by_cases h : i < C.length
    · rw [ptsTo_succ R C d i h, List.length_append]
      have : (ptT R d (pks R [] (C.getD i []))).toList.length ≤ 1 := by cases ptT R d (pks R [] (C.getD i [])) <;> simp
      omega
    · have : ptsTo R d C (i + 1) = ptsTo R d C i := by unfold ptsTo; rw [List.take_of_length_le (by omega), List.take_of_length_le (by omega)]
      rw [this]; omega

end Go.Proofs.YtnpapoegkbehbaaGreat

/- Where rows hold at all, they hold at a place where so many of them are met, or numbers are 0, that there is no other one (pure). -/
namespace Go.Proofs.YtnpapoegkbehbaaGreat
open Lin

/-- All rows hold at x by w. -/
def Fea (d : Nat) (rows : List (List Int)) (x : Nat → Int) (w : Int) : Prop := 0 < w ∧ ∀ r ∈ rows, dot d (V r) x ≤ V r d * w

theorem dot_last (d : Nat) (a x : Nat → Int) : dot (d + 1) a x = dot d a x + a d * x d := rfl

theorem ref_last (d : Nat) (c : Nat → Int) : dot (refG d).length c (V (refG d)) = - c d := by
  rw [refG_len, dot_last]
  have h0 : dot d c (V (refG d)) = 0 := by
    rw [dot_comm]
    refine dot_zero fun i hi => ?_
    simp [V, refG, show i < d + 1 by omega, show ¬ i = d by omega]
  have h1 : V (refG d) d = -1 := by simp [V, refG]
  rw [h0, h1]; omega

/-- A cut is empty just if its rows hold nowhere. -/
theorem emp_fea {d : Nat} {rows : List (List Int)} : empB d rows = false ↔ ∃ x w, Fea d rows x w := by
  have he : empB d rows = false ↔ waysL rows (refG d) = [] := by
    unfold empB
    cases waysL rows (refG d) <;> simp
  rw [he, ways_none]
  constructor
  · rintro ⟨c, h1, h2⟩
    rw [ref_last] at h2
    refine ⟨c, - c d, h2, fun r hr => ?_⟩
    have := h1 r hr
    rw [refG_len, dot_last, dot_comm] at this
    have e : V r d * - c d = -(c d * V r d) := by grind
    omega
  · rintro ⟨x, w, hw, h⟩
    refine ⟨fun k => if k = d then -w else x k, fun r hr => ?_, ?_⟩
    · have h1 := h r hr
      rw [refG_len, dot_last]
      simp only [if_true]
      have e : dot d (fun k => if k = d then -w else x k) (V r) = dot d (V r) x := by
        rw [dot_comm]
        exact dot_congr (fun _ _ => rfl) fun i hi => by rw [if_neg (by omega)]
      rw [e]
      have e2 : -w * V r d = -(V r d * w) := by grind
      omega
    · rw [ref_last]
      simp only [if_true]; omega

/-- The rows, and the axes. -/
def axR (d k : Nat) : List Int := (List.range (d + 1)).map fun j => if j = k then 1 else 0
def axsL (d : Nat) : List (List Int) := (List.range d).map (axR d)
def allR (d : Nat) (rows : List (List Int)) : List (List Int) := rows ++ axsL d

theorem axR_len (d k : Nat) : (axR d k).length = d + 1 := by simp [axR]
theorem axR_V {d k j : Nat} (hj : j < d + 1) : V (axR d k) j = if j = k then 1 else 0 := by simp [V, axR, hj]
theorem axR_dot {d k : Nat} (hk : k < d) (x : Nat → Int) : dot d (V (axR d k)) x = x k := by
  have : dot d (V (axR d k)) x = dot d (unit k) x := dot_congr (fun i hi => by rw [axR_V (by omega)]; rfl) fun _ _ => rfl
  rw [this, dot_unit hk]
theorem axR_last {d k : Nat} (hk : k < d) : V (axR d k) d = 0 := by rw [axR_V (by omega), if_neg (by omega)]

/-- A row, as a direction of one dimension more. -/
def hom (d : Nat) (r : List Int) : Nat → Int := fun k => if k = d then - V r d else V r k
theorem hom_dot (d : Nat) (r : List Int) (c : Nat → Int) : dot (d + 1) c (hom d r) = dot d (V r) c - V r d * c d := by
  rw [dot_last]
  have e : dot d c (hom d r) = dot d (V r) c := by
    rw [dot_comm]
    exact dot_congr (fun i hi => by unfold hom; rw [if_neg (by omega)]) fun _ _ => rfl
  rw [e]
  unfold hom
  simp only [if_true]
  grind

/-- From a place where rows hold on to one where nothing is left to go: the goal stays as it is. -/
theorem to_corner {d : Nat} {Z : List (Nat → Int)} {G : Nat → Int} (hax : ∀ v : Nat → Int, v d = 0 → (∃ i, i < d ∧ v i ≠ 0) → ∃ z ∈ Z, dot (d + 1) v z ≠ 0) :
    ∀ (n : Nat) (c : Nat → Int), loose (d + 1) Z c ≤ n → (∀ z ∈ Z, dot (d + 1) c z ≤ 0) → 0 < c d → (∀ v : Nat → Int, v d = 0 → (∀ z ∈ Z, dot (d + 1) c z = 0 → dot (d + 1) v z = 0) → dot d G v = 0) →
    ∃ c' : Nat → Int, (∀ z ∈ Z, dot (d + 1) c' z ≤ 0) ∧ 0 < c' d ∧ dot d G c' * c d = dot d G c * c' d ∧ ∀ v : Nat → Int, v d = 0 → (∀ z ∈ Z, dot (d + 1) c' z = 0 → dot (d + 1) v z = 0) → ∀ i, i < d → v i = 0 := by
  intro n
  induction n with
  | zero =>
    intro c hn hc hcd hG
    refine ⟨c, hc, hcd, rfl, fun v hv hz i hi => ?_⟩
    apply Classical.byContradiction
    intro hne
    obtain ⟨z, hzm, hzn⟩ := hax v hv ⟨i, hi, hne⟩
    have h0 : loose (d + 1) Z c = 0 := by omega
    unfold loose at h0
    rw [List.countP_eq_zero] at h0
    exact hzn (hz z hzm (by have := h0 z hzm; simpa using this))
  | succ n ih =>
    intro c hn hc hcd hG
    by_cases hs : ∀ v : Nat → Int, v d = 0 → (∀ z ∈ Z, dot (d + 1) c z = 0 → dot (d + 1) v z = 0) → ∀ i, i < d → v i = 0
    · exact ⟨c, hc, hcd, rfl, hs⟩
    · have : ∃ v : Nat → Int, v d = 0 ∧ (∀ z ∈ Z, dot (d + 1) c z = 0 → dot (d + 1) v z = 0) ∧ ∃ z ∈ Z, 0 < dot (d + 1) v z := by
        apply Classical.byContradiction
        intro hno
        apply hs
        intro v hv hz i hi
        apply Classical.byContradiction
        intro hne
        obtain ⟨z, hzm, hzn⟩ := hax v hv ⟨i, hi, hne⟩
        by_cases hp : 0 < dot (d + 1) v z
        · exact hno ⟨v, hv, hz, z, hzm, hp⟩
        · refine hno ⟨fun k => - v k, by simp [hv], fun z hz' h0 => by rw [dot_neg, hz z hz' h0]; rfl, z, hzm, by rw [dot_neg]; omega⟩
      obtain ⟨v, hv, hz, hp⟩ := this
      obtain ⟨s, r, hs0, hr0, h1, h2⟩ := ray hc hz hp
      have hcd' : 0 < s * c d + r * v d := by rw [hv]; have := Int.mul_pos hs0 hcd; omega
      have htight : ∀ z ∈ Z, dot (d + 1) c z = 0 → dot (d + 1) (fun k => s * c k + r * v k) z = 0 := fun z hzm h0 => by rw [dot_lc, h0, hz z hzm h0]; omega
      obtain ⟨c', k1, k2, k3, k4⟩ := ih (fun k => s * c k + r * v k) (by omega) h1 hcd' (fun u hu hzu => hG u hu fun z hzm h0 => hzu z hzm (htight z hzm h0))
      refine ⟨c', k1, k2, ?_, k4⟩
      have e1 : dot d G (fun k => s * c k + r * v k) = s * dot d G c := by
        rw [dot_comm, dot_lc, dot_comm d c, dot_comm d v, hG v hv hz]; omega
      rw [e1, hv] at k3
      have k5 : s * (dot d G c' * c d) = s * (dot d G c * c' d) := by
        have : dot d G c' * (s * c d + r * 0) = s * (dot d G c' * c d) := by grind
        rw [← this, k3]; grind
      exact Int.eq_of_mul_eq_mul_left (by omega) k5

/-- The rows that are met at c, and the axes on which it is 0. -/
def metF2 (d : Nat) (rows : List (List Int)) (c : Nat → Int) : List (List Int) := (allR d rows).filter fun r => decide (dot d (V r) c = V r d * c d)

theorem pick_sub (c : Nat) (m : List (List Int)) : (pickL c m).Sublist m := by
  have : ∀ (m h : List (List Int)), ∃ s, s.Sublist m ∧ m.foldl (fun h r => if freeL c (h ++ [r]) then h ++ [r] else h) h = h ++ s := by
    intro m
    induction m with
    | nil => intro h; exact ⟨[], List.Sublist.refl _, by simp⟩
    | cons x m ih =>
      intro h
      rw [List.foldl_cons]
      by_cases hf : freeL c (h ++ [x]) = true
      · rw [if_pos hf]
        obtain ⟨s, hs, he⟩ := ih (h ++ [x])
        exact ⟨x :: s, hs.cons_cons _, by rw [he]; simp⟩
      · rw [if_neg hf]
        obtain ⟨s, hs, he⟩ := ih h
        exact ⟨s, hs.cons _, he⟩
  obtain ⟨s, hs, he⟩ := this m []
  unfold pickL
  rw [he]; simpa using hs

theorem ng_dot {d : Nat} {r : List Int} (hr : r.length = d + 1) (u : Nat → Int) : dot (d + 1) (V (ngR d r)) u = dot d (V r) u - V r d * u d := by
  rw [dot_last]
  have e1 : dot d (V (ngR d r)) u = dot d (V r) u := dot_congr (fun i hi => by unfold V; rw [ngR_get hr (by omega), if_neg (by omega)]) fun _ _ => rfl
  have e2 : V (ngR d r) d = - V r d := by unfold V; rw [ngR_get hr (by omega), if_pos rfl]
  rw [e1, e2]; grind

theorem dotL_take {d : Nat} {r : List Int} (hr : r.length = d + 1) (y : List Int) : dotL (r.take d) y = dot d (V r) (V y) := by
  unfold dotL dot
  rw [List.length_take, hr, show min d (d + 1) = d by omega]
  refine sumN_congr fun i hi => ?_
  unfold V
  rw [List.getD_eq_getElem?_getD, List.getElem?_take_of_lt hi, List.getD_eq_getElem?_getD, List.getD_eq_getElem?_getD]

theorem ptK_iff {d : Nat} {rows : List (List Int)} (hl : ∀ r ∈ rows, r.length = d + 1) {y : List Int} : ptK rows d y = true ↔ ∀ r ∈ rows, dot d (V r) (V y) ≤ V r d * V y d := by
  unfold ptK
  rw [List.all_eq_true]
  constructor
  · intro h r hr
    have := h r hr
    rw [decide_eq_true_eq, dotL_take (hl r hr)] at this
    exact this
  · intro h r hr
    rw [decide_eq_true_eq, dotL_take (hl r hr)]
    exact h r hr

/-- What so many independent rows that are met at c give. -/
theorem pt_at {d : Nat} {rows t : List (List Int)} {c : Nat → Int} (hl : ∀ r ∈ rows, r.length = d + 1) (ht : ∀ r ∈ t, r.length = d + 1) (hcd : 0 < c d) (hfea : ∀ r ∈ rows, dot d (V r) c ≤ V r d * c d)
    (hmet : ∀ r ∈ t, dot d (V r) c = V r d * c d) (hspan : ∀ v : Nat → Int, (∀ r ∈ t, dot d (V r) v = 0) → ∀ i, i < d → v i = 0) : ∃ y, ptT rows d t = some y ∧ 0 < V y d ∧ ∀ i, i < d + 1 → V y i * c d = c i * V y d := by
  have hone : OneDir (d + 1) (t.map (ngR d)) := by
    refine ⟨c, ⟨d, by omega, by omega⟩, fun r hr => ?_, fun u hu => ?_⟩
    · obtain ⟨q, hq, rfl⟩ := List.mem_map.1 hr
      rw [ng_dot (ht q hq), hmet q hq]; omega
    · have hz := hspan (fun k => c d * u k + (-(u d)) * c k) fun r hr => by
        have h1 := hu (ngR d r) (List.mem_map.2 ⟨r, hr, rfl⟩)
        rw [ng_dot (ht r hr)] at h1
        have h2 := hmet r hr
        rw [dot_comm, dot_lc, dot_comm d u, dot_comm d c, h2]
        have h3 : dot d (V r) u = V r d * u d := by omega
        rw [h3]; grind
      have key : ∀ i, i < d + 1 → c d * u i = u d * c i := fun i hi => by
        by_cases e : i = d
        · rw [e]; exact Int.mul_comm _ _
        · have := hz i (by omega)
          grind
      intro i j hi hj
      have e : c d * (u i * c j - u j * c i) = 0 := by
        have : c d * (u i * c j - u j * c i) = (c d * u i) * c j - (c d * u j) * c i := by grind
        rw [this, key i hi, key j hj]; grind
      rcases Int.mul_eq_zero.1 e with h | h
      · omega
      · omega
  have hb := norm_one_iff.2 hone
  have hlen : (pickL (d + 1) (t.map (ngR d))).length + 1 = d + 1 := by simpa [normB] using hb
  obtain ⟨⟨p, hp, hne⟩, _, hpar⟩ := norm_spec hlen
  have hck : ∀ r ∈ t.map (ngR d), dot (d + 1) (V r) c = 0 := fun r hr => by
    obtain ⟨q, hq, rfl⟩ := List.mem_map.1 hr
    rw [ng_dot (ht q hq), hmet q hq]; omega
  have hp2 := hpar c hck
  have hMd : V (normL (d + 1) (t.map (ngR d))) d ≠ 0 := fun e => by
    have := hp2 p d hp (by omega)
    rw [e, Int.mul_zero] at this
    rcases Int.mul_eq_zero.1 this.symm with h | h
    · omega
    · exact hne h
  -- which way it looks
  have hy : 0 < V (ptY d t) d ∧ ∀ i, i < d + 1 → V (ptY d t) i * c d = c i * V (ptY d t) d := by
    unfold ptY
    have hMd' : (normL (d + 1) (t.map (ngR d))).getD d 0 ≠ 0 := hMd
    by_cases hn : (normL (d + 1) (t.map (ngR d))).getD d 0 < 0
    · rw [if_pos hn]
      have hn' : V (normL (d + 1) (t.map (ngR d))) d < 0 := hn
      refine ⟨by rw [V_neg]; omega, fun i hi => ?_⟩
      have := hp2 i d hi (by omega)
      rw [V_neg, V_neg]
      grind
    · rw [if_neg hn]
      have hn' : ¬ V (normL (d + 1) (t.map (ngR d))) d < 0 := hn
      refine ⟨by omega, fun i hi => ?_⟩
      have := hp2 i d hi (by omega)
      grind
  have hK : ∀ r ∈ rows, dot d (V r) (V (ptY d t)) ≤ V r d * V (ptY d t) d := fun r hr => by
    have h1 := hfea r hr
    have e : dot d (V r) (V (ptY d t)) * c d = dot d (V r) c * V (ptY d t) d := by
      unfold dot
      rw [← sumN_mul_right, ← sumN_mul_right]
      refine sumN_congr fun i hi => ?_
      have := hy.2 i (by omega)
      grind
    have h2 : dot d (V r) (V (ptY d t)) * c d ≤ V r d * V (ptY d t) d * c d := by
      rw [e]
      have := Int.mul_le_mul_of_nonneg_right h1 (Int.le_of_lt hy.1)
      have e2 : V r d * V (ptY d t) d * c d = V r d * c d * V (ptY d t) d := by grind
      omega
    exact Int.le_of_mul_le_mul_right h2 hcd
  refine ⟨ptY d t, ?_, hy.1, hy.2⟩
  unfold ptT
  rw [if_pos ⟨hb, hMd, (ptK_iff hl).2 hK⟩]

/-- A place that comes of a choice keeps all rows. -/
theorem pt_fea {d : Nat} {rows t : List (List Int)} {y : List Int} (hl : ∀ r ∈ rows, r.length = d + 1) (h : ptT rows d t = some y) : Fea d rows (V y) (V y d) := by
  unfold ptT at h
  split at h
  case isTrue hc =>
    simp only [Option.some.injEq] at h
    subst h
    refine ⟨?_, (ptK_iff hl).1 hc.2.2⟩
    have hne := hc.2.1
    unfold ptY
    by_cases hn : (normL (d + 1) (t.map (ngR d))).getD d 0 < 0
    · rw [if_pos hn, V_neg]
      have hn' : V (normL (d + 1) (t.map (ngR d))) d < 0 := hn
      omega
    · rw [if_neg hn]
      have h1 : V (normL (d + 1) (t.map (ngR d))) d ≠ 0 := hne
      have h2 : ¬ V (normL (d + 1) (t.map (ngR d))) d < 0 := hn
      omega
  case isFalse => cases h

/-- Where rows hold, so many rows and axes meet at a place at which they hold, too; the goal is there what it was, if what is met bears it. -/
theorem basic {d : Nat} {rows : List (List Int)} (hl : ∀ r ∈ rows, r.length = d + 1) {x : Nat → Int} {w : Int} (hf : Fea d rows x w) {G : Nat → Int}
    (hG : ∀ v : Nat → Int, (∀ r ∈ rows, dot d (V r) x = V r d * w → dot d (V r) v = 0) → dot d G v = 0) :
    ∃ t y, t.Sublist (allR d rows) ∧ t.length = d ∧ ptT rows d t = some y ∧ 0 < V y d ∧ dot d G (V y) * w = dot d G x * V y d := by
  obtain ⟨σ, hσ⟩ : ∃ σ : Nat → Int, σ = fun k => if 0 ≤ x k then 1 else -1 := ⟨_, rfl⟩
  have hσ1 : ∀ k, (σ k = 1 ∧ 0 ≤ x k) ∨ (σ k = -1 ∧ x k < 0) := fun k => by
    rw [hσ]
    by_cases h : 0 ≤ x k
    · simp [h]
    · simp [h]; omega
  obtain ⟨Z, hZ⟩ : ∃ Z : List (Nat → Int), Z = rows.map (hom d) ++ (List.range d).map fun k => fun j => if j = k then - σ k else 0 := ⟨_, rfl⟩
  have hZr : ∀ r ∈ rows, hom d r ∈ Z := fun r hr => by rw [hZ]; exact List.mem_append_left _ (List.mem_map.2 ⟨r, hr, rfl⟩)
  have hZa : ∀ k, k < d → (fun j => if j = k then - σ k else 0) ∈ Z := fun k hk => by rw [hZ]; exact List.mem_append_right _ (List.mem_map.2 ⟨k, by simpa using hk, rfl⟩)
  have haxd : ∀ k, k < d → ∀ c : Nat → Int, dot (d + 1) c (fun j => if j = k then - σ k else 0) = - σ k * c k := fun k hk c => by
    have : dot (d + 1) c (fun j => if j = k then - σ k else 0) = - σ k * dot (d + 1) (unit k) c := by
      unfold dot
      rw [← sumN_mul]
      refine sumN_congr fun i _ => ?_
      unfold unit
      by_cases e : i = k
      · simp only [e, if_true]; grind
      · simp [e]
    rw [this, dot_unit (by omega)]
  have hZc : ∀ z ∈ Z, (∃ r ∈ rows, z = hom d r) ∨ ∃ k, k < d ∧ z = fun j => if j = k then - σ k else 0 := fun z hz => by
    rw [hZ] at hz
    rcases List.mem_append.1 hz with h | h
    · obtain ⟨r, hr, rfl⟩ := List.mem_map.1 h
      exact .inl ⟨r, hr, rfl⟩
    · obtain ⟨k, hk, rfl⟩ := List.mem_map.1 h
      exact .inr ⟨k, by simpa using hk, rfl⟩
  have hcx : ∀ r ∈ rows, dot (d + 1) (fun k => if k = d then w else x k) (hom d r) = dot d (V r) x - V r d * w := fun r _ => by
    rw [hom_dot]
    simp only [if_true]
    congr 1
    exact dot_congr (fun _ _ => rfl) fun i hi => by rw [if_neg (by omega)]
  have hG0 : dot d G (fun k => if k = d then w else x k) = dot d G x := dot_congr (fun _ _ => rfl) fun i hi => by rw [if_neg (by omega)]
  obtain ⟨c, k1, k2, k3, k4⟩ := to_corner (d := d) (Z := Z) (G := G) (fun v hv ⟨i, hi, hne⟩ => ⟨_, hZa i hi, by
      rw [haxd i hi]
      rcases hσ1 i with ⟨h, _⟩ | ⟨h, _⟩ <;> rw [h] <;> omega⟩) _ (fun k => if k = d then w else x k) (Nat.le_refl _) (fun z hz => by
      rcases hZc z hz with ⟨r, hr, rfl⟩ | ⟨k, hk, rfl⟩
      · rw [hcx r hr]; have := hf.2 r hr; omega
      · rw [haxd k hk, if_neg (by omega)]
        rcases hσ1 k with ⟨h, hx⟩ | ⟨h, hx⟩ <;> rw [h] <;> omega) (by simp only [if_true]; exact hf.1) (fun v hv hz => hG v fun r hr hrt => by
      have := hz _ (hZr r hr) (by rw [hcx r hr, hrt]; omega)
      rw [hom_dot, hv] at this
      omega)
  rw [hG0] at k3
  simp only [if_true] at k3
  have hcf : ∀ r ∈ rows, dot d (V r) c ≤ V r d * c d := fun r hr => by
    have := k1 _ (hZr r hr)
    rw [hom_dot] at this
    omega
  have hspan : ∀ v : Nat → Int, (∀ r ∈ metF2 d rows c, dot d (V r) v = 0) → ∀ i, i < d → v i = 0 := by
    intro v hv i hi
    have := k4 (fun k => if k = d then 0 else v k) (by simp) (fun z hz h0 => by
      rcases hZc z hz with ⟨r, hr, rfl⟩ | ⟨k, hk, rfl⟩
      · rw [hom_dot] at h0 ⊢
        simp only [if_true]
        have h1 : dot d (V r) (fun k => if k = d then 0 else v k) = dot d (V r) v := dot_congr (fun _ _ => rfl) fun i hi => by rw [if_neg (by omega)]
        rw [h1, hv r (by
          unfold metF2 allR
          rw [List.mem_filter]
          exact ⟨List.mem_append_left _ hr, by simp; omega⟩)]
        omega
      · rw [haxd k hk] at h0 ⊢
        have hck : c k = 0 := by
          rcases hσ1 k with ⟨h, _⟩ | ⟨h, _⟩ <;> rw [h] at h0 <;> omega
        have h2 := hv (axR d k) (by
          unfold metF2 allR
          rw [List.mem_filter]
          refine ⟨List.mem_append_right _ (List.mem_map.2 ⟨k, by simpa using hk, rfl⟩), ?_⟩
          rw [decide_eq_true_eq, axR_dot hk, axR_last hk, hck]; omega)
        rw [axR_dot hk] at h2
        rw [if_neg (by omega), h2]; omega) i hi
    rw [if_neg (by omega)] at this
    exact this
  have hg := pick_greedy d (metF2 d rows c)
  have hfull := (greedy_full hg).2 fun v hv => hspan v fun r hr => hv (V r) (mem_fm.2 ⟨r, hr, rfl⟩)
  rw [fm_length] at hfull
  have hsub := pick_sub d (metF2 d rows c)
  have hmem : ∀ r ∈ pickL d (metF2 d rows c), r.length = d + 1 ∧ dot d (V r) c = V r d * c d := fun r hr => by
    have h1 := List.mem_filter.1 (hsub.subset hr)
    refine ⟨?_, by simpa using h1.2⟩
    rcases List.mem_append.1 h1.1 with h | h
    · exact hl r h
    · obtain ⟨k, _, rfl⟩ := List.mem_map.1 h
      exact axR_len d k
  obtain ⟨y, hy1, hy2, hy3⟩ := pt_at hl (fun r hr => (hmem r hr).1) k2 hcf (fun r hr => (hmem r hr).2) (fun v hv => orth_none hg.free (by rw [fm_length]; exact hfull) fun r hr => by
    obtain ⟨l, hlm, rfl⟩ := mem_fm.1 hr
    exact hv l hlm)
  refine ⟨_, y, hsub.trans List.filter_sublist, hfull, hy1, hy2, ?_⟩
  have e : dot d G (V y) * c d = dot d G c * V y d := by
    unfold dot
    rw [← sumN_mul_right, ← sumN_mul_right]
    refine sumN_congr fun i hi => ?_
    have := hy3 i (by omega)
    grind
  have k6 : c d * (dot d G (V y) * w) = c d * (dot d G x * V y d) := by
    have e1 : c d * (dot d G (V y) * w) = (dot d G (V y) * c d) * w := by grind
    have e2 : c d * (dot d G x * V y d) = (dot d G x * c d) * V y d := by grind
    rw [e1, e2, e, ← k3]; grind
  exact Int.eq_of_mul_eq_mul_left (by omega) k6

/-- What the document says: nothing is in a cut, if no choice of rows and axes gives a place. -/
def docE (d : Nat) (rows : List (List Int)) : Bool := (chosenL d (allR d rows).length).all fun c => (ptT rows d (pks (allR d rows) [] c)).isNone

theorem chosen_sub {k : Nat} {L t : List (List Int)} (hs : t.Sublist L) (hl : t.length = k) : ∃ c ∈ chosenL k L.length, pks L [] c = t := by
  have hx := chz_ext L [] k 0
  rw [List.drop_zero] at hx
  have hm : t ∈ chz k L := chz_mem.2 ⟨hs, hl⟩
  rw [← hx] at hm
  obtain ⟨c, hc, he⟩ := List.mem_map.1 hm
  exact ⟨c, chosen_ext.2 hc, he⟩

theorem doc_emp {d : Nat} {rows : List (List Int)} (hl : ∀ r ∈ rows, r.length = d + 1) : docE d rows = empB d rows := by
  cases he : empB d rows with
  | true =>
    unfold docE
    rw [List.all_eq_true]
    intro c _
    cases hp : ptT rows d (pks (allR d rows) [] c) with
    | none => rfl
    | some y =>
      have := emp_fea.2 ⟨_, _, pt_fea hl hp⟩
      rw [he] at this; cases this
  | false =>
    obtain ⟨x, w, hf⟩ := emp_fea.1 he
    obtain ⟨t, y, h1, h2, h3, _⟩ := basic hl hf (G := fun _ => 0) (fun v _ => dot_zero fun _ _ => rfl)
    obtain ⟨c, hc, hcp⟩ := chosen_sub h1 h2
    rw [Bool.eq_false_iff]
    intro h
    unfold docE at h
    rw [List.all_eq_true] at h
    have := h c hc
    rw [hcp, h3] at this
    cases this

end Go.Proofs.YtnpapoegkbehbaaGreat

/- Rows in blocks of their own, as slices. -/
namespace Go.Proofs.YtnpapoegkbehbaaGreat
open Go.RowKit

/-- A row in a block of its own, as a slice. -/
theorem row_slT {B : Nat} {w : World} {g cap n : Nat} {F : Nat → Value} {l : List Int} (r : w.rowIs g 3 cap F) (hF : ∀ i, i < n → F i = .int .i64 (l.getD i 0)) (hl : l.length = n) (hn : n ≤ cap) (hc : cap ≤ 9223372036854775807) : Sl B 3 w (.slice (some ⟨g, 0, none⟩) n cap) (ints l) := by
  refine ⟨some ⟨g, 0, none⟩, cap, by simp [hl], by simpa [hl] using hn, by unfold maxLen; omega, fun i hi => ?_, fun h => by cases h⟩
  have hi' : i < l.length := by simpa using hi
  refine ⟨g, 0, rfl, ?_, ?_⟩
  · rw [Nat.zero_add, r.cell (by omega), hF i (by omega), ints_get _ _ hi']
  · obtain ⟨c, hb, _, _⟩ := r
    exact Or.inr ⟨c, hb⟩

theorem own_rw {B n : Nat} {e : TypeId} {w : World} {v : Value} {l : List Int} (h : w.ownsRow B e 1 v n (ints l)) (hn : 0 < n) : ∃ g cap F, v = .slice (some ⟨g, 0, none⟩) n cap ∧ B ≤ g ∧ w.rowIs g e cap F ∧ (∀ i, i < n → F i = .int .i64 (l.getD i 0)) ∧ n ≤ cap ∧ cap ≤ 9223372036854775807 := by
  obtain ⟨h1, h2⟩ := h
  rcases h2 with ⟨_, h0⟩ | ⟨g, cap, cur, hu, hg, hh, hnc, hcm, hs, htk⟩
  · omega
  · have hll : l.length = n := by simpa [ints] using h1
    refine ⟨g, cap, fun i => cur.toList.getD i (.int .i64 0), hu, hg, ⟨cur, hh, by omega, fun i hi => ?_⟩, fun i hi => ?_, hnc, by unfold maxLen at hcm; exact hcm⟩
    · show cur[i]? = some (cur.toList.getD i (.int .i64 0))
      rw [← Array.getElem?_toList, List.getD_eq_getElem?_getD, List.getElem?_eq_getElem (by simp; omega)]; rfl
    · have e1 : cur.toList.getD i (.int .i64 0) = (ints l).getD i (.int .i64 0) := by
        rw [← htk]
        simp only [List.getD_eq_getElem?_getD]
        rw [List.getElem?_take_of_lt (by omega)]
      show cur.toList.getD i (.int .i64 0) = _
      rw [e1]
      simp [ints, show i < l.length by omega]

end Go.Proofs.YtnpapoegkbehbaaGreat

/- What Empty and Greatest share: rows laid together, products of small by great, axes. -/
namespace Go.Proofs.YtnpapoegkbehbaaGreat
open Go.RowKit Lin
attribute [local go_sem ↓] Go.wp_at_zero Go.wp_at_succ

/-- Worlds that are the same but for draws. -/
def Qe (w wr : World) : Prop := ∃ n, wr = w.drewN n
theorem Qe.refl (w : World) : Qe w w := ⟨0, rfl⟩
theorem Qe.drewN {w wr : World} (h : Qe w wr) (k : Nat) : Qe w (wr.drewN k) := by
  obtain ⟨n, rfl⟩ := h
  exact ⟨n + k, by rw [World.drewN_drewN]⟩
theorem Qe.below {N : Nat} {w wr : World} (h : Qe w wr) : Below N w wr := by
  obtain ⟨n, rfl⟩ := h
  exact ⟨rfl, rfl, rfl, Nat.le_refl _, fun _ _ => rfl⟩

theorem fr_all {B : Nat} {w w' : World} {v v' : Value} {m m2 : List (List Int)} {vs us : List Value}
    (h1 : vs.length = m.length) (h2 : w.ownsRow B 22 1 v m.length vs) (h3 : ∀ i, i < m.length → Sl 0 3 w (vs.getD i (.slice none 0 0)) (ints (m.getD i [])))
    (k1 : us.length = m2.length) (k3 : ∀ i, i < m2.length → Sl 0 3 w (us.getD i (.slice none 0 0)) (ints (m2.getD i [])))
    (ho : w'.ownsRow B 22 1 v' (m.length + m2.length) (vs ++ us)) (hg : w.grownBy w' v.ownBlock) : Fr B 22 3 w' v' (m ++ m2) := by
  have ht : ∀ k, v.ownBlock = some k → 0 ≤ k ∧ ∀ cur, w.heap[k]? ≠ some (.cells cur 3 (0, 0)) := fun k hk => ⟨Nat.zero_le _, (owns_typed h2 (by decide) k hk).2⟩
  refine ⟨vs ++ us, by simp [h1, k1], by simpa using ho, fun i hi => ?_⟩
  by_cases hlt : i < m.length
  · have e1' : (vs ++ us).getD i (.slice none 0 0) = vs.getD i (.slice none 0 0) := by
      simp only [List.getD_eq_getElem?_getD]; rw [List.getElem?_append_left (by omega)]
    have e2' : (m ++ m2).getD i [] = m.getD i [] := by
      simp only [List.getD_eq_getElem?_getD]; rw [List.getElem?_append_left (by omega)]
    rw [e1', e2']
    exact (h3 i hlt).grown hg ht
  · have e1' : (vs ++ us).getD i (.slice none 0 0) = us.getD (i - m.length) (.slice none 0 0) := by
      simp only [List.getD_eq_getElem?_getD]; rw [List.getElem?_append_right (by omega), h1]
    have e2' : (m ++ m2).getD i [] = m2.getD (i - m.length) [] := by
      simp only [List.getD_eq_getElem?_getD]; rw [List.getElem?_append_right (by omega)]
    rw [e1', e2']
    exact (k3 _ (by simp at hi; omega)).grown hg ht

theorem slice_cells {B : Nat} {e : TypeId} {w : World} {a : Addr} {n cap : Nat} {us : List Value} (h : Sl B e w (.slice (some a) n cap) us) : ∀ j u, us[j]? = some u → w.cell? (a.add j) = some u := by
  intro j u hj
  have hlt : j < us.length := (List.getElem?_eq_some_iff.1 hj).1
  obtain ⟨ao, c, hv, _, _, h3, _⟩ := h
  obtain ⟨b, o, ha, hc, _⟩ := h3 j hlt
  simp only [Value.slice.injEq] at hv
  rw [← hv.1] at ha
  simp only [Option.some.injEq] at ha
  rw [ha]
  have h5 := hc.trans hj
  unfold Addr.add
  by_cases e : j = 0
  · subst e; simpa using h5
  · simpa [e] using h5

theorem rows_one1 {w : World} {m : List (List Int)} {us : List Value} (k1 : us.length = m.length) (k3 : ∀ i, i < m.length → Sl 0 3 w (us.getD i (.slice none 0 0)) (ints (m.getD i []))) : ∀ u ∈ us, u.oneCell' = true := by
  intro u hu
  obtain ⟨i, hi, rfl⟩ := List.getElem_of_mem hu
  have h := k3 i (by omega)
  have e : us.getD i (.slice none 0 0) = us[i] := by simp [hi]
  rw [e] at h
  obtain ⟨ao, cap, hv, _⟩ := sl_open h
  rw [hv]; rfl

theorem Sl.takeE {B n c : Nat} {w : World} {ao : Option Addr} {zs : List Int} (h : Sl B 3 w (.slice ao zs.length c) (ints zs)) (hn : n ≤ zs.length) : Sl B 3 w (.slice ao n c) (ints (zs.take n)) := by
  obtain ⟨bo, cap, hv, h1, h2, h3, h4⟩ := h
  simp only [Value.slice.injEq] at hv
  obtain ⟨rfl, _, rfl⟩ := hv
  simp at h1
  refine ⟨ao, c, by simp; omega, by simp; omega, by omega, fun i hi => ?_, h4⟩
  have hi' : i < n := by simp at hi; omega
  obtain ⟨b, o, ha, hc, ht⟩ := h3 i (by simp; omega)
  refine ⟨b, o, ha, ?_, ht⟩
  rw [hc, ints_get _ _ (by omega), ints_get _ _ (by simp; omega)]
  simp [hi']

/-- The first small, the other one not so. -/
def Swe (a x : List Int) : Prop := a.length ≤ x.length ∧ a.length ≤ 8 ∧ (∀ z ∈ a, z.natAbs ≤ 1000) ∧ ∀ z ∈ x, z.natAbs ≤ 1000000000000

theorem mul_bwe {a x : Int} (ha : a.natAbs ≤ 1000) (hx : x.natAbs ≤ 1000000000000) : (a * x).natAbs ≤ 1000000000000000 := by
  rw [Int.natAbs_mul]
  exact Nat.le_trans (Nat.mul_le_mul ha hx) (by decide)

theorem sum_swe {a x : List Int} (h : Swe a x) : ∀ k, k ≤ a.length → (Lin.sumN k fun i => a.getD i 0 * x.getD i 0).natAbs ≤ k * 1000000000000000 := by
  intro k
  induction k with
  | zero => intro _; simp [Lin.sumN]
  | succ k ih =>
    intro hk
    have h1 := ih (by omega)
    have hl := h.1
    have h3 : (a.getD k 0 * x.getD k 0).natAbs ≤ 1000000000000000 := mul_bwe (h.2.2.1 _ (by simp [show k < a.length by omega])) (h.2.2.2 _ (by simp [show k < x.length by omega]))
    have e : (Lin.sumN (k + 1) fun i => a.getD i 0 * x.getD i 0) = (Lin.sumN k fun i => a.getD i 0 * x.getD i 0) + a.getD k 0 * x.getD k 0 := rfl
    rw [e]
    omega

set_option maxRecDepth 100000 in
set_option maxHeartbeats 400000 in
theorem dotE_any (B : Nat) (a x : List Int) (u v : Value) (w : World) (hu : Sl B 3 w u (ints a)) (hv : Sl B 3 w v (ints x)) (hs : Swe a x) :
    Calls Tryz.prog 36 #[u, v] w fun e w' => e = .returned (.int .i64 (dotL a x)) ∧ ∃ n, w' = w.drewN n := by
  obtain ⟨ao, cap, hvv, hlc, hcm⟩ := sl_open hu
  obtain ⟨bo, cbp, huu, hlb, hcb⟩ := sl_open hv
  subst hvv huu
  have HU : Hid (Sl B 3 w (.slice ao a.length cap) (ints a)) := hu
  have HV : Hid (Sl B 3 w (.slice bo x.length cbp) (ints x)) := hv
  have HS : Hid (Swe a x) := hs
  have hle : a.length ≤ x.length := hs.1
  have hl8 : a.length ≤ 8 := hs.2.1
  clear hu hv hs
  go_enter Tryz.func36, Tryz.ntmps36
  go_wp2
  go_loopw [5, 6] (fun s i wr => ∃ k : Nat, k ≤ a.length ∧ i = .int .i64 k ∧ s = .int .i64 (Lin.sumN k fun i => a.getD i 0 * x.getD i 0) ∧ ∃ n, wr = w.drewN n) (fun _ i _ => a.length - (intOf i).toNat)
  case atStart => exact ⟨0, Nat.zero_le _, rfl, rfl, 0, rfl⟩
  case round =>
    obtain ⟨k, hk, rfl, rfl, n, rfl⟩ := hrel
    by_cases hlt : k < a.length
    · have hlt2 : k < x.length := by omega
      obtain ⟨b, o, cp, hs, hc1, hcc⟩ := sl_cell HU.out hlt
      simp only [Value.slice.injEq] at hs
      obtain ⟨rfl, _, rfl⟩ := hs
      obtain ⟨b2, o2, cp2, hs2, hc2, hcc2⟩ := sl_cell HV.out hlt2
      simp only [Value.slice.injEq] at hs2
      obtain ⟨rfl, _, rfl⟩ := hs2
      have h1 := sum_swe HS.out k hk
      have h2 := sum_swe HS.out (k + 1) (by omega)
      have h3 : (a.getD k 0 * x.getD k 0).natAbs ≤ 1000000000000000 := mul_bwe (HS.out.2.2.1 _ (by simp [hlt])) (HS.out.2.2.2 _ (by simp [hlt2]))
      have HSU : Hid ((Lin.sumN (k + 1) fun i => a.getD i 0 * x.getD i 0) = (Lin.sumN k fun i => a.getD i 0 * x.getD i 0) + a.getD k 0 * x.getD k 0) := rfl
      rw [HSU.out] at h2
      generalize (Lin.sumN k fun i => a.getD i 0 * x.getD i 0) = S at *
      generalize a.getD k 0 = p at *
      generalize x.getD k 0 = q at *
      have e2 : wrap64 (S + wrap64 (p * q)) = S + p * q := by
        rw [IntWalk.wrap64_in (p * q) ⟨by omega, by omega⟩, IntWalk.wrap64_in _ ⟨by omega, by omega⟩]
      have hkI : (k : Int) < (a.length : Int) := by omega
      have hkI2 : (k : Int) < (x.length : Int) := by omega
      have hkI0 : (0 : Int) ≤ (k : Int) := by omega
      clear h1 h2 h3
      go_wp2
      go_quiet (fail)
      go_wp2
      go_roundw
      case rel => exact ⟨k + 1, by omega, by go_num, by rw [HSU.out, e2], _, rfl⟩
      case measure => simp [intOf]; omega
    · have hke : k = a.length := by omega
      subst hke
      go_wp2
      go_ret
      exact ⟨rfl, n, rfl⟩

theorem pks_snocE (P : List (List Int)) (x : List Int) (k : Nat) (h : k < x.length) : pks P [] (x.take (k + 1)) = pks P [] (x.take k) ++ [P.getD (x.getD k 0).toNat []] := by
  have e : x.getD k 0 = x[k] := by simp [h]
  rw [List.take_succ_eq_append_getElem h, e]
  unfold pks
  rw [List.map_append]
  rfl

theorem pks_inE {P : List (List Int)} {c : List Int} (h : ∀ q ∈ c, 0 ≤ q ∧ q < (P.length : Int)) : ∀ x ∈ pks P [] c, x ∈ P := by
  intro x hx
  obtain ⟨q, hq, rfl⟩ := List.mem_map.1 hx
  obtain ⟨h1, h2⟩ := h q hq
  simp [show q.toNat < P.length by omega]

theorem ng_mxE {d : Nat} {t : List (List Int)} (h : ∀ r ∈ t, r.length = d + 1 ∧ ∀ z ∈ r, z.natAbs ≤ 30) (h3 : d ≤ 3) : Mx (d + 1) 60 (t.map (ngR d)) := by
  refine ⟨fun r hr => ?_, fun r hr z hz => ?_, by omega, by omega, by decide, Nat.le_trans (fb_mono (by decide) (show d + 1 ≤ 5 by omega)) (by decide)⟩
  · obtain ⟨y, hy, rfl⟩ := List.mem_map.1 hr
    exact ngR_len (h y hy).1
  · obtain ⟨y, hy, rfl⟩ := List.mem_map.1 hr
    have hyl := (h y hy).1
    have hyb := (h y hy).2
    unfold ngR at hz
    rcases List.mem_append.1 hz with h1 | h1
    · have := hyb z (List.mem_of_mem_take h1); omega
    · simp only [List.mem_singleton] at h1
      have := hyb (y.getD d 0) (getD_mem (by omega))
      omega

theorem ptY_lenE {d : Nat} {t : List (List Int)} (h : normB (d + 1) (t.map (ngR d)) = true) : (ptY d t).length = d + 1 := by
  unfold ptY
  split
  · rw [List.length_map, norm_len h]
  · exact norm_len h

theorem ptY_bdE {d : Nat} {t : List (List Int)} (hx : Mx (d + 1) 60 (t.map (ngR d))) : ∀ z ∈ ptY d t, z.natAbs ≤ 1000000000000 := by
  intro z hz
  unfold ptY at hz
  split at hz
  · obtain ⟨y, hy, rfl⟩ := List.mem_map.1 hz
    have := norm_bd hx y hy; omega
  · exact norm_bd hx z hz

theorem axs_len (d : Nat) : (axsL d).length = d := by simp [axsL]
theorem axs_at {d k : Nat} (h : k < d) : (axsL d).getD k [] = axR d k := by simp [axsL, h]
theorem all_len (d : Nat) (rows : List (List Int)) : (allR d rows).length = rows.length + d := by simp [allR, axsL]
theorem axR_small (d k : Nat) : ∀ z ∈ axR d k, z.natAbs ≤ 30 := fun z hz => by
  simp only [axR, List.mem_map] at hz
  obtain ⟨j, _, rfl⟩ := hz
  split <;> decide
theorem all_box {d : Nat} {rows : List (List Int)} (h : ∀ r ∈ rows, r.length = d + 1 ∧ ∀ z ∈ r, z.natAbs ≤ 20) : ∀ r ∈ allR d rows, r.length = d + 1 ∧ ∀ z ∈ r, z.natAbs ≤ 30 := fun r hr => by
  rcases List.mem_append.1 hr with h1 | h1
  · exact ⟨(h r h1).1, fun z hz => by have := (h r h1).2 z hz; omega⟩
  · simp only [axsL, List.mem_map] at h1
    obtain ⟨k, _, rfl⟩ := h1
    exact ⟨axR_len d k, axR_small d k⟩

/-- An axis, laid. -/
theorem ax_row {w : World} {d k : Nat} (hk : k < d + 1) (hd : d ≤ 100) {o : Obj} (ho : o = .cells ((madeCells #[.int .i64 0] (d + 1)).setIfInBounds k (.int .i64 1)) 3) : Sl 0 3 (w.alloc o) (.slice (some ⟨w.heap.size, 0, none⟩) (d + 1) (d + 1)) (ints (axR d k)) := by
  subst ho
  have n3 := alloc_new w (.cells ((madeCells #[.int .i64 0] (d + 1)).setIfInBounds k (.int .i64 1)) 3)
  have hgrow : (w.alloc (.cells ((madeCells #[.int .i64 0] (d + 1)).setIfInBounds k (.int .i64 1)) 3)).rowIs w.heap.size 3 (d + 1) (fun j => if j = k then .int .i64 1 else .int .i64 0) := by
    refine ⟨_, n3, ?_, fun i hi => ?_⟩
    · simp only [Array.size_setIfInBounds]
      rw [← Array.length_toList, toList_madeCells_one]; simp
    · rw [Array.getElem?_setIfInBounds]
      by_cases e : k = i
      · subst e
        have hz : k < (madeCells #[.int .i64 0] (d + 1)).size := by rw [← Array.length_toList, toList_madeCells_one]; simpa using hk
        simp [hz]
      · rw [if_neg e, ← Array.getElem?_toList, toList_madeCells_one]
        simp [hi, show ¬ i = k from fun h => e h.symm]
  refine Sl.row' hgrow (by unfold maxLen; omega) (by simp [axR]) (fun i hi => ?_)
  rw [ints_get _ _ (by rw [axR_len]; exact hi)]
  by_cases e : i = k
  · subst e; simp [axR, hi]
  · simp [axR, hi, e]

end Go.Proofs.YtnpapoegkbehbaaGreat
