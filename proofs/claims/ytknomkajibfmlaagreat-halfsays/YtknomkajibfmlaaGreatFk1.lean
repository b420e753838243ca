/- Caratheodory: a goal that is a sum of so much of rows is one of rows that don't hang on each other, and says no more (pure). -/
import Derived.Test.YtknomkajibfmlaaGreatMgAJ
import Derived.Test.YtknomkajibfmlaaGreatWys1
namespace Go.Proofs.YtknomkajibfmlaaGreat
open Lin

/-- So much of each row, added: the j-th number. -/
def sv (t : List (List Int)) (a : Nat → Int) (j : Nat) : Int := sm (t.map V) a j

theorem sv_eq (t : List (List Int)) (a : Nat → Int) (j : Nat) : sv t a j = sumN t.length fun i => a i * V (t.getD i []) j := by
  unfold sv sm
  rw [List.length_map]
  refine sumN_congr fun i hi => ?_
  have : (t.map V).getD i (fun _ => 0) = V (t.getD i []) := by simp [hi]
  rw [this]

theorem sv_lc (t : List (List Int)) (x y : Int) (a b : Nat → Int) (j : Nat) : sv t (fun i => x * a i + y * b i) j = x * sv t a j + y * sv t b j := sm_lc _ x y a b j

theorem sv_congr {t : List (List Int)} {a b : Nat → Int} (h : ∀ i, i < t.length → a i = b i) (j : Nat) : sv t a j = sv t b j := sm_congr (fun i hi => h i (by simpa using hi)) j

theorem sv_cons (r : List Int) (t : List (List Int)) (a : Nat → Int) (j : Nat) : sv (r :: t) a j = a 0 * V r j + sv t (fun i => a (i + 1)) j := sm_cons _ _ _ _

/-- What is taken 0 times is let go. -/
theorem filt : ∀ (t : List (List Int)) (b : Nat → Int), (∀ i, i < t.length → 0 ≤ b i) → ∃ t' a', t'.Sublist t ∧ (∀ i, i < t'.length → 0 < a' i) ∧ (∀ j, sv t' a' j = sv t b j) ∧ ((∃ i, i < t.length ∧ b i = 0) → t'.length < t.length)
  | [], b, _ => ⟨[], b, List.Sublist.refl _, fun i hi => by simp at hi, fun _ => rfl, fun ⟨i, hi, _⟩ => by simp at hi⟩
  | r :: t, b, h => by
    obtain ⟨t', a', h1, h2, h3, h4⟩ := filt t (fun i => b (i + 1)) fun i hi => h (i + 1) (by simpa using hi)
    have hl := h1.length_le
    by_cases h0 : b 0 = 0
    · refine ⟨t', a', h1.cons r, h2, fun j => ?_, fun _ => by simp; omega⟩
      rw [sv_cons, h0, h3]; omega
    · have hp : 0 < b 0 := by have := h 0 (by simp); omega
      refine ⟨r :: t', fun i => if i = 0 then b 0 else a' (i - 1), h1.cons_cons r, fun i hi => ?_, fun j => ?_, fun ⟨i, hi, hz⟩ => ?_⟩
      · by_cases e : i = 0
        · simp [e, hp]
        · simp only [e, if_false]
          exact h2 _ (by simp at hi; omega)
      · rw [sv_cons, sv_cons]
        simp only [if_true]
        rw [← h3 j]
        congr 1
      · have : i ≠ 0 := fun e => h0 (by rw [← e]; exact hz)
        have := h4 ⟨i - 1, by simp at hi; omega, by rw [show i - 1 + 1 = i by omega]; exact hz⟩
        simp; omega

theorem acr_sm (t : List (List Int)) (g : List Int) (a : Nat → Int) (j : Nat) : dot (t.length + 1) (V (acrR t g j)) a = sv t a j - a t.length * V g j := by
  have e1 : ∀ i, i < t.length → V (acrR t g j) i = V (t.getD i []) j := fun i hi => by
    have ht : i < (t.map fun r => r.getD j 0).length := by simpa using hi
    unfold V acrR
    rw [List.getD_eq_getElem?_getD, List.getElem?_append_left ht]
    simp [hi]
  have e2 : V (acrR t g j) t.length = -(V g j) := by
    unfold V acrR
    rw [List.getD_eq_getElem?_getD, List.getElem?_append_right (by simp)]; simp
  rw [sv_eq]
  unfold dot
  show sumN t.length _ + V (acrR t g j) t.length * a t.length = _
  rw [e2, sumN_congr (g := fun i => a i * V (t.getD i []) j) fun i hi => by rw [e1 i hi]; exact Int.mul_comm _ _]
  grind

theorem rep_iff {t : List (List Int)} {g : List Int} {a : Nat → Int} : (∀ r ∈ acrL g t, dot (t.length + 1) (V r) a = 0) ↔ ∀ j, j < g.length → sv t a j = a t.length * V g j := by
  constructor
  · intro h j hj
    have := h (acrR t g j) (by simp only [acrL, List.mem_map, List.mem_range]; exact ⟨j, hj, rfl⟩)
    rw [acr_sm] at this
    omega
  · intro h r hr
    simp only [acrL, List.mem_map, List.mem_range] at hr
    obtain ⟨j, hj, rfl⟩ := hr
    rw [acr_sm, h j hj]; omega

theorem way_iff {g : List Int} {t : List (List Int)} : wayB g t = true ↔ ∃ a : Nat → Int, (∀ i, i < t.length + 1 → 0 < a i) ∧ (∀ j, j < g.length → sv t a j = a t.length * V g j) ∧ ∀ u : Nat → Int, (∀ j, j < g.length → sv t u j = u t.length * V g j) → Par (t.length + 1) u a := by
  rw [wayB_iff]
  constructor
  · rintro ⟨a, h1, h2, h3⟩
    exact ⟨a, h1, rep_iff.1 h2, fun u hu => h3 u (rep_iff.2 hu)⟩
  · rintro ⟨a, h1, h2, h3⟩
    exact ⟨a, h1, rep_iff.2 h2, fun u hu => h3 u (rep_iff.1 hu)⟩

theorem way_short {g : List Int} {t : List (List Int)} (h : wayB g t = true) : t.length ≤ g.length := by
  obtain ⟨a, hpos, _, hpar⟩ := wayB_iff.1 h
  apply Classical.byContradiction
  intro hn
  obtain ⟨v, ⟨i, hi, hne⟩, hv⟩ := orth_some (t.length + 1) ((acrL g t).map V ++ [unit t.length]) (by simp [acrL]; omega)
  have h0 : v t.length = 0 := by
    have := hv (unit t.length) (by simp)
    rwa [dot_unit (by omega)] at this
  have h1 := hpar v (fun r hr => hv (V r) (List.mem_append_left _ (List.mem_map.2 ⟨r, hr, rfl⟩))) i t.length hi (by omega)
  rw [h0, Int.zero_mul] at h1
  have := hpos t.length (by omega)
  rcases Int.mul_eq_zero.1 h1 with h | h
  · exact hne h
  · omega

theorem ways_some {rows : List (List Int)} {g : List Int} : waysL rows g ≠ [] ↔ ∃ t, t.Sublist rows ∧ wayB g t = true := by
  constructor
  · intro h
    cases hw : waysL rows g with
    | nil => exact absurd hw h
    | cons c l =>
      have hm : c ∈ waysL rows g := by rw [hw]; simp
      simp only [waysL, waysTo, List.mem_flatMap, List.mem_range, List.mem_filter] at hm
      obtain ⟨m, hm1, hm2, hm3⟩ := hm
      have hx := chz_ext rows [] m 0
      rw [List.drop_zero] at hx
      have : pks rows [] c ∈ chz m rows := by rw [← hx]; exact List.mem_map.2 ⟨c, hm2, rfl⟩
      exact ⟨_, (chz_mem.1 this).1, hm3⟩
  · rintro ⟨t, hs, hw⟩
    have hx := chz_ext rows [] t.length 0
    rw [List.drop_zero] at hx
    have hm : t ∈ chz t.length rows := chz_mem.2 ⟨hs, rfl⟩
    rw [← hx] at hm
    obtain ⟨c, hc, he⟩ := List.mem_map.1 hm
    have : c ∈ waysL rows g := by
      simp only [waysL, waysTo, List.mem_flatMap, List.mem_range, List.mem_filter]
      refine ⟨t.length, ?_, hc, by rw [he]; exact hw⟩
      have := hs.length_le
      have := way_short hw
      omega
    intro h
    rw [h] at this; cases this

theorem cara {rows : List (List Int)} {g : List Int} (hcyc : ∀ t : List (List Int), t.Sublist rows → ∀ w : Nat → Int, (∀ i, i < t.length → 0 ≤ w i) → (∀ j, j < g.length → sv t w j = 0) → 0 ≤ sv t w g.length) :
    ∀ (n : Nat) (t : List (List Int)) (a : Nat → Int), t.length ≤ n → t.Sublist rows → (∀ i, i < t.length + 1 → 0 < a i) → (∀ j, j < g.length → sv t a j = a t.length * V g j) →
    ∃ t' a', t'.Sublist rows ∧ wayB g t' = true ∧ (∀ i, i < t'.length + 1 → 0 < a' i) ∧ (∀ j, j < g.length → sv t' a' j = a' t'.length * V g j) ∧ sv t' a' g.length * a t.length ≤ sv t a g.length * a' t'.length := by
  intro n
  induction n with
  | zero =>
    intro t a hn hs hp hr
    by_cases hk : ∀ u : Nat → Int, (∀ j, j < g.length → sv t u j = u t.length * V g j) → Par (t.length + 1) u a
    · exact ⟨t, a, hs, way_iff.2 ⟨a, hp, hr, hk⟩, hp, hr, Int.le_refl _⟩
    · exfalso
      apply hk
      intro u _ i j hi hj
      have : i = 0 := by omega
      have : j = 0 := by omega
      subst i; subst j; rfl
  | succ n ih =>
    intro t a hn hs hp hr
    by_cases hk : ∀ u : Nat → Int, (∀ j, j < g.length → sv t u j = u t.length * V g j) → Par (t.length + 1) u a
    · exact ⟨t, a, hs, way_iff.2 ⟨a, hp, hr, hk⟩, hp, hr, Int.le_refl _⟩
    · have : ∃ u : Nat → Int, (∀ j, j < g.length → sv t u j = u t.length * V g j) ∧ ¬ Par (t.length + 1) u a := Classical.byContradiction fun h => hk fun u hu => Classical.byContradiction fun hne => h ⟨u, hu, hne⟩
      obtain ⟨u, hu, hnp⟩ := this
      have haN := hp t.length (by omega)
      have hw : ∃ w : Nat → Int, (∀ j, j < g.length → sv t w j = 0) ∧ ∃ i, i < t.length ∧ w i ≠ 0 := by
        refine ⟨fun i => a t.length * u i + (-(u t.length)) * a i, fun j hj => ?_, ?_⟩
        · rw [sv_lc, hu j hj, hr j hj]; grind
        · apply Classical.byContradiction
          intro hno
          apply hnp
          have hz : ∀ i, i < t.length + 1 → a t.length * u i = u t.length * a i := fun i hi => by
            by_cases e : i = t.length
            · rw [e]; exact Int.mul_comm _ _
            · have : a t.length * u i + (-(u t.length)) * a i = 0 := Classical.byContradiction fun hne => hno ⟨i, by omega, hne⟩
              grind
          intro i j hi hj
          have e : a t.length * (u i * a j - u j * a i) = 0 := by
            have h1 := hz i hi
            have h2 := hz j hj
            have : a t.length * (u i * a j - u j * a i) = (a t.length * u i) * a j - (a t.length * u j) * a i := by grind
            rw [this, h1, h2]; grind
          rcases Int.mul_eq_zero.1 e with h | h
          · omega
          · omega
      have hw2 : ∃ w : Nat → Int, (∀ j, j < g.length → sv t w j = 0) ∧ (∃ i, i < t.length ∧ 0 < w i) ∧ 0 ≤ sv t w g.length := by
        obtain ⟨w, h1, i0, hi0, hne⟩ := hw
        have hneg : ∀ j, sv t (fun i => - w i) j = - sv t w j := fun j => by
          have := sv_lc t (-1) 0 w w j
          rw [show (fun i => (-1 : Int) * w i + 0 * w i) = fun i => - w i by funext i; omega] at this
          rw [this]; omega
        by_cases hb : 0 ≤ sv t w g.length
        · by_cases hpw : ∃ i, i < t.length ∧ 0 < w i
          · exact ⟨w, h1, hpw, hb⟩
          · have hall : ∀ i, i < t.length → 0 ≤ - w i := fun i hi => by
              have : ¬ 0 < w i := fun h => hpw ⟨i, hi, h⟩
              omega
            refine ⟨fun i => - w i, fun j hj => by rw [hneg, h1 j hj]; rfl, ⟨i0, hi0, by have := hall i0 hi0; show 0 < - w i0; omega⟩, ?_⟩
            exact hcyc t hs _ hall fun j hj => by rw [hneg, h1 j hj]; rfl
        · by_cases hpw : ∃ i, i < t.length ∧ w i < 0
          · obtain ⟨i, hi, hlt⟩ := hpw
            exact ⟨fun i => - w i, fun j hj => by rw [hneg, h1 j hj]; rfl, ⟨i, hi, by show 0 < - w i; omega⟩, by rw [hneg]; omega⟩
          · have hall : ∀ i, i < t.length → 0 ≤ w i := fun i hi => by
              have : ¬ w i < 0 := fun h => hpw ⟨i, hi, h⟩
              omega
            exact ⟨w, h1, ⟨i0, hi0, by have := hall i0 hi0; omega⟩, hcyc t hs w hall h1⟩
      obtain ⟨w, h1, ⟨i0, hi0, hp0⟩, hb⟩ := hw2
      obtain ⟨i1, hi1, hle⟩ := least_ratio (f := a) (g := w) (X := (List.range t.length).filter fun i => decide (0 < w i)) (by
          intro he
          have : i0 ∈ (List.range t.length).filter fun i => decide (0 < w i) := by simp [hi0, hp0]
          rw [he] at this; simp at this) (fun z hz => by simpa using (List.mem_filter.1 hz).2)
      have hi1l : i1 < t.length := by simpa using (List.mem_filter.1 hi1).1
      have hw1 : 0 < w i1 := by simpa using (List.mem_filter.1 hi1).2
      have ha1 := hp i1 (by omega)
      have hbn : ∀ i, i < t.length → 0 ≤ w i1 * a i + (-(a i1)) * w i := fun i hi => by
        have hai := hp i (by omega)
        by_cases hwi : 0 < w i
        · have := hle i (by simp [hi, hwi])
          have e : w i1 * a i + (-(a i1)) * w i = a i * w i1 - a i1 * w i := by grind
          omega
        · have e1 : 0 ≤ w i1 * a i := Int.mul_nonneg (by omega) (by omega)
          have e2 : 0 ≤ a i1 * (- w i) := Int.mul_nonneg (by omega) (by omega)
          have e3 : (-(a i1)) * w i = a i1 * (- w i) := by grind
          omega
      obtain ⟨t2, a2, g1, g2, g3, g4⟩ := filt t (fun i => w i1 * a i + (-(a i1)) * w i) hbn
      have hlt := g4 ⟨i1, hi1l, by grind⟩
      have hs2 : 0 < w i1 * a t.length := Int.mul_pos hw1 haN
      obtain ⟨t', a', k1, k2, k3, k4, k5⟩ := ih t2 (fun i => if i = t2.length then w i1 * a t.length else a2 i) (by omega) (g1.trans hs) (fun i hi => by
          by_cases e : i = t2.length
          · simp only [e, if_true]; exact hs2
          · simp only [e, if_false]; exact g2 i (by omega)) (fun j hj => by
          simp only [if_true]
          rw [sv_congr (b := a2) (fun i hi => by rw [if_neg (by omega)]), g3, sv_lc, h1 j hj, hr j hj]
          grind)
      refine ⟨t', a', k1, k2, k3, k4, ?_⟩
      simp only [if_true] at k5
      rw [sv_congr (t := t2) (b := a2) (fun i hi => by rw [if_neg (by omega)]), g3, sv_lc] at k5
      have hA' := k3 t'.length (by omega)
      have hprod : 0 ≤ a i1 * sv t w g.length * a' t'.length := Int.mul_nonneg (Int.mul_nonneg (by omega) hb) (by omega)
      have k6 : w i1 * (sv t' a' g.length * a t.length) ≤ w i1 * (sv t a g.length * a' t'.length) := by
        have e1 : w i1 * (sv t' a' g.length * a t.length) = sv t' a' g.length * (w i1 * a t.length) := by grind
        have e2 : (w i1 * sv t a g.length + -a i1 * sv t w g.length) * a' t'.length = w i1 * (sv t a g.length * a' t'.length) - a i1 * sv t w g.length * a' t'.length := by grind
        omega
      exact Int.le_of_mul_le_mul_left k6 hw1

/-- There is no way just if a direction that rises with no row rises with the goal. -/
theorem ways_none {rows : List (List Int)} {g : List Int} : waysL rows g = [] ↔ ∃ c : Nat → Int, (∀ r ∈ rows, dot g.length c (V r) ≤ 0) ∧ 0 < dot g.length c (V g) := by
  constructor
  · intro h
    rcases farkas g.length _ (rows.map V) rfl (V g) with ⟨s, a, hs, ha, he⟩ | ⟨c, h1, h2⟩
    · exfalso
      refine (ways_some (rows := rows) (g := g)).2 ?_ h
      -- the rows cut to the goal's numbers say nothing behind them
      have hcut : ∃ t, t.Sublist (rows.map fun r => r.take g.length) ∧ wayB g t = true := by
        obtain ⟨t, a2, g1, g2, g3, _⟩ := filt (rows.map fun r => r.take g.length) a fun i hi => ha i (by simpa using hi)
        have hrep : ∀ j, j < g.length → sv (rows.map fun r => r.take g.length) a j = s * V g j := fun j hj => by
          rw [he j hj, sv_eq]
          unfold sm
          rw [List.length_map, List.length_map]
          refine sumN_congr fun i hi => ?_
          have e1 : (rows.map fun r => r.take g.length).getD i [] = (rows.getD i []).take g.length := by simp [hi]
          have e2 : (rows.map V).getD i (fun _ => 0) = V (rows.getD i []) := by simp [hi]
          rw [e1, e2]
          congr 1
          unfold V
          generalize rows.getD i [] = r
          rw [List.getD_eq_getElem?_getD, List.getElem?_take_of_lt hj, List.getD_eq_getElem?_getD]
        obtain ⟨t', _, k1, k2, _⟩ := cara (rows := rows.map fun r => r.take g.length) (g := g) (fun t ht w _ _ => by
            have : sv t w g.length = 0 := by
              rw [sv_eq]
              refine sumN_zero fun i hi => ?_
              have hm : t.getD i [] ∈ t := by simp [hi]
              obtain ⟨r, _, hr⟩ := List.mem_map.1 (ht.subset hm)
              have : V (t.getD i []) g.length = 0 := by
                rw [← hr]
                unfold V
                rw [List.getD_eq_getElem?_getD, List.getElem?_eq_none (by simp; omega)]; rfl
              rw [this, Int.mul_zero]
            omega) t.length t (fun i => if i = t.length then s else a2 i) (Nat.le_refl _) g1 (fun i hi => by
            by_cases e : i = t.length
            · simp only [e, if_true]; exact hs
            · simp only [e, if_false]; exact g2 i (by omega)) (fun j hj => by
            simp only [if_true]
            rw [sv_congr (b := a2) (fun i hi => by rw [if_neg (by omega)]), g3, hrep j hj])
        exact ⟨t', k1, k2⟩
      obtain ⟨t', k1, k2⟩ := hcut
      obtain ⟨t0, ht0, he0⟩ := List.sublist_map_iff.1 k1
      refine ⟨t0, ht0, ?_⟩
      rw [he0] at k2
      have e : acrL g (t0.map fun r => r.take g.length) = acrL g t0 := by
        unfold acrL
        refine List.map_congr_left fun j hj => ?_
        rw [List.mem_range] at hj
        unfold acrR
        rw [List.map_map]
        congr 1
        refine List.map_congr_left fun r _ => ?_
        show (r.take g.length).getD j 0 = r.getD j 0
        rw [List.getD_eq_getElem?_getD, List.getElem?_take_of_lt hj, List.getD_eq_getElem?_getD]
      unfold wayB wayN at k2 ⊢
      rw [e, List.length_map] at k2
      exact k2
    · exact ⟨c, fun r hr => h1 _ (List.mem_map.2 ⟨r, hr, rfl⟩), h2⟩
  · rintro ⟨c, h1, h2⟩
    apply Classical.byContradiction
    intro hne
    obtain ⟨t, hs, hw⟩ := ways_some.1 hne
    obtain ⟨a, hp, hr, _⟩ := way_iff.1 hw
    have h3 : dot g.length c (sv t a) = a t.length * dot g.length c (V g) := by
      have : dot g.length c (sv t a) = dot g.length c (fun j => a t.length * V g j) := dot_congr (fun _ _ => rfl) hr
      rw [this]
      unfold dot
      rw [← sumN_mul]
      exact sumN_congr fun i _ => by grind
    have h4 : dot g.length c (sv t a) ≤ 0 := by
      have := dot_sm g.length c (t.map V) a
      show dot g.length c (sm (t.map V) a) ≤ 0
      rw [this, List.length_map]
      refine sumN_nonpos fun i hi => ?_
      have e2 : (t.map V).getD i (fun _ => 0) = V (t.getD i []) := by simp [hi]
      rw [e2]
      exact Int.mul_nonpos_of_nonneg_of_nonpos (Int.le_of_lt (hp i (by omega))) (h1 _ (hs.subset (by simp [hi])))
    have := Int.mul_pos (hp t.length (by omega)) h2
    omega

end Go.Proofs.YtknomkajibfmlaaGreat
