/- Where rows hold at all, they hold at a place where so many of them are met, or numbers are 0, that there is no other one (pure). -/
import Derived.Test.YtknomkajibfmlaaGreatFk1
import Derived.Test.YtknomkajibfmlaaGreatMgAL
import Derived.Test.YtknomkajibfmlaaGreatMgAM
namespace Go.Proofs.YtknomkajibfmlaaGreat
open Lin

/-- All rows hold at x by w. -/
def Fea (d : Nat) (rows : List (List Int)) (x : Nat → Int) (w : Int) : Prop := 0 < w ∧ ∀ r ∈ rows, dot d (V r) x ≤ V r d * w

theorem dot_last (d : Nat) (a x : Nat → Int) : dot (d + 1) a x = dot d a x + a d * x d := rfl

theorem ref_last (d : Nat) (c : Nat → Int) : dot (refG d).length c (V (refG d)) = - c d := by
  rw [refG_len, dot_last]
  have h0 : dot d c (V (refG d)) = 0 := by
    rw [dot_comm]
    refine dot_zero fun i hi => ?_
    simp [V, refG, show i < d + 1 by omega, show ¬ i = d by omega]
  have h1 : V (refG d) d = -1 := by simp [V, refG]
  rw [h0, h1]; omega

/-- A cut is empty just if its rows hold nowhere. -/
theorem emp_fea {d : Nat} {rows : List (List Int)} : empB d rows = false ↔ ∃ x w, Fea d rows x w := by
  have he : empB d rows = false ↔ waysL rows (refG d) = [] := by
    unfold empB
    cases waysL rows (refG d) <;> simp
  rw [he, ways_none]
  constructor
  · rintro ⟨c, h1, h2⟩
    rw [ref_last] at h2
    refine ⟨c, - c d, h2, fun r hr => ?_⟩
    have := h1 r hr
    rw [refG_len, dot_last, dot_comm] at this
    have e : V r d * - c d = -(c d * V r d) := by grind
    omega
  · rintro ⟨x, w, hw, h⟩
    refine ⟨fun k => if k = d then -w else x k, fun r hr => ?_, ?_⟩
    · have h1 := h r hr
      rw [refG_len, dot_last]
      simp only [if_true]
      have e : dot d (fun k => if k = d then -w else x k) (V r) = dot d (V r) x := by
        rw [dot_comm]
        exact dot_congr (fun _ _ => rfl) fun i hi => by rw [if_neg (by omega)]
      rw [e]
      have e2 : -w * V r d = -(V r d * w) := by grind
      omega
    · rw [ref_last]
      simp only [if_true]; omega

/-- The rows, and the axes. -/
def axR (d k : Nat) : List Int := (List.range (d + 1)).map fun j => if j = k then 1 else 0
def axsL (d : Nat) : List (List Int) := (List.range d).map (axR d)
def allR (d : Nat) (rows : List (List Int)) : List (List Int) := rows ++ axsL d

theorem axR_len (d k : Nat) : (axR d k).length = d + 1 := by simp [axR]
theorem axR_V {d k j : Nat} (hj : j < d + 1) : V (axR d k) j = if j = k then 1 else 0 := by simp [V, axR, hj]
theorem axR_dot {d k : Nat} (hk : k < d) (x : Nat → Int) : dot d (V (axR d k)) x = x k := by
  have : dot d (V (axR d k)) x = dot d (unit k) x := dot_congr (fun i hi => by rw [axR_V (by omega)]; rfl) fun _ _ => rfl
  rw [this, dot_unit hk]
theorem axR_last {d k : Nat} (hk : k < d) : V (axR d k) d = 0 := by rw [axR_V (by omega), if_neg (by omega)]

/-- A row, as a direction of one dimension more. -/
def hom (d : Nat) (r : List Int) : Nat → Int := fun k => if k = d then - V r d else V r k
theorem hom_dot (d : Nat) (r : List Int) (c : Nat → Int) : dot (d + 1) c (hom d r) = dot d (V r) c - V r d * c d := by
  rw [dot_last]
  have e : dot d c (hom d r) = dot d (V r) c := by
    rw [dot_comm]
    exact dot_congr (fun i hi => by unfold hom; rw [if_neg (by omega)]) fun _ _ => rfl
  rw [e]
  unfold hom
  simp only [if_true]
  grind

/-- From a place where rows hold on to one where nothing is left to go: the goal stays as it is. -/
theorem to_corner {d : Nat} {Z : List (Nat → Int)} {G : Nat → Int} (hax : ∀ v : Nat → Int, v d = 0 → (∃ i, i < d ∧ v i ≠ 0) → ∃ z ∈ Z, dot (d + 1) v z ≠ 0) :
    ∀ (n : Nat) (c : Nat → Int), loose (d + 1) Z c ≤ n → (∀ z ∈ Z, dot (d + 1) c z ≤ 0) → 0 < c d → (∀ v : Nat → Int, v d = 0 → (∀ z ∈ Z, dot (d + 1) c z = 0 → dot (d + 1) v z = 0) → dot d G v = 0) →
    ∃ c' : Nat → Int, (∀ z ∈ Z, dot (d + 1) c' z ≤ 0) ∧ 0 < c' d ∧ dot d G c' * c d = dot d G c * c' d ∧ ∀ v : Nat → Int, v d = 0 → (∀ z ∈ Z, dot (d + 1) c' z = 0 → dot (d + 1) v z = 0) → ∀ i, i < d → v i = 0 := by
  intro n
  induction n with
  | zero =>
    intro c hn hc hcd hG
    refine ⟨c, hc, hcd, rfl, fun v hv hz i hi => ?_⟩
    apply Classical.byContradiction
    intro hne
    obtain ⟨z, hzm, hzn⟩ := hax v hv ⟨i, hi, hne⟩
    have h0 : loose (d + 1) Z c = 0 := by omega
    unfold loose at h0
    rw [List.countP_eq_zero] at h0
    exact hzn (hz z hzm (by have := h0 z hzm; simpa using this))
  | succ n ih =>
    intro c hn hc hcd hG
    by_cases hs : ∀ v : Nat → Int, v d = 0 → (∀ z ∈ Z, dot (d + 1) c z = 0 → dot (d + 1) v z = 0) → ∀ i, i < d → v i = 0
    · exact ⟨c, hc, hcd, rfl, hs⟩
    · have : ∃ v : Nat → Int, v d = 0 ∧ (∀ z ∈ Z, dot (d + 1) c z = 0 → dot (d + 1) v z = 0) ∧ ∃ z ∈ Z, 0 < dot (d + 1) v z := by
        apply Classical.byContradiction
        intro hno
        apply hs
        intro v hv hz i hi
        apply Classical.byContradiction
        intro hne
        obtain ⟨z, hzm, hzn⟩ := hax v hv ⟨i, hi, hne⟩
        by_cases hp : 0 < dot (d + 1) v z
        · exact hno ⟨v, hv, hz, z, hzm, hp⟩
        · refine hno ⟨fun k => - v k, by simp [hv], fun z hz' h0 => by rw [dot_neg, hz z hz' h0]; rfl, z, hzm, by rw [dot_neg]; omega⟩
      obtain ⟨v, hv, hz, hp⟩ := this
      obtain ⟨s, r, hs0, hr0, h1, h2⟩ := ray hc hz hp
      have hcd' : 0 < s * c d + r * v d := by rw [hv]; have := Int.mul_pos hs0 hcd; omega
      have htight : ∀ z ∈ Z, dot (d + 1) c z = 0 → dot (d + 1) (fun k => s * c k + r * v k) z = 0 := fun z hzm h0 => by rw [dot_lc, h0, hz z hzm h0]; omega
      obtain ⟨c', k1, k2, k3, k4⟩ := ih (fun k => s * c k + r * v k) (by omega) h1 hcd' (fun u hu hzu => hG u hu fun z hzm h0 => hzu z hzm (htight z hzm h0))
      refine ⟨c', k1, k2, ?_, k4⟩
      have e1 : dot d G (fun k => s * c k + r * v k) = s * dot d G c := by
        rw [dot_comm, dot_lc, dot_comm d c, dot_comm d v, hG v hv hz]; omega
      rw [e1, hv] at k3
      have k5 : s * (dot d G c' * c d) = s * (dot d G c * c' d) := by
        have : dot d G c' * (s * c d + r * 0) = s * (dot d G c' * c d) := by grind
        rw [← this, k3]; grind
      exact Int.eq_of_mul_eq_mul_left (by omega) k5

/-- The rows that are met at c, and the axes on which it is 0. -/
def metF2 (d : Nat) (rows : List (List Int)) (c : Nat → Int) : List (List Int) := (allR d rows).filter fun r => decide (dot d (V r) c = V r d * c d)

theorem pick_sub (c : Nat) (m : List (List Int)) : (pickL c m).Sublist m := by
  have : ∀ (m h : List (List Int)), ∃ s, s.Sublist m ∧ m.foldl (fun h r => if freeL c (h ++ [r]) then h ++ [r] else h) h = h ++ s := by
    intro m
    induction m with
    | nil => intro h; exact ⟨[], List.Sublist.refl _, by simp⟩
    | cons x m ih =>
      intro h
      rw [List.foldl_cons]
      by_cases hf : freeL c (h ++ [x]) = true
      · rw [if_pos hf]
        obtain ⟨s, hs, he⟩ := ih (h ++ [x])
        exact ⟨x :: s, hs.cons_cons _, by rw [he]; simp⟩
      · rw [if_neg hf]
        obtain ⟨s, hs, he⟩ := ih h
        exact ⟨s, hs.cons _, he⟩
  obtain ⟨s, hs, he⟩ := this m []
  unfold pickL
  rw [he]; simpa using hs

theorem ng_dot {d : Nat} {r : List Int} (hr : r.length = d + 1) (u : Nat → Int) : dot (d + 1) (V (ngR d r)) u = dot d (V r) u - V r d * u d := by
  rw [dot_last]
  have e1 : dot d (V (ngR d r)) u = dot d (V r) u := dot_congr (fun i hi => by unfold V; rw [ngR_get hr (by omega), if_neg (by omega)]) fun _ _ => rfl
  have e2 : V (ngR d r) d = - V r d := by unfold V; rw [ngR_get hr (by omega), if_pos rfl]
  rw [e1, e2]; grind

theorem dotL_take {d : Nat} {r : List Int} (hr : r.length = d + 1) (y : List Int) : dotL (r.take d) y = dot d (V r) (V y) := by
  unfold dotL dot
  rw [List.length_take, hr, show min d (d + 1) = d by omega]
  refine sumN_congr fun i hi => ?_
  unfold V
  rw [List.getD_eq_getElem?_getD, List.getElem?_take_of_lt hi, List.getD_eq_getElem?_getD, List.getD_eq_getElem?_getD]

theorem ptK_iff {d : Nat} {rows : List (List Int)} (hl : ∀ r ∈ rows, r.length = d + 1) {y : List Int} : ptK rows d y = true ↔ ∀ r ∈ rows, dot d (V r) (V y) ≤ V r d * V y d := by
  unfold ptK
  rw [List.all_eq_true]
  constructor
  · intro h r hr
    have := h r hr
    rw [decide_eq_true_eq, dotL_take (hl r hr)] at this
    exact this
  · intro h r hr
    rw [decide_eq_true_eq, dotL_take (hl r hr)]
    exact h r hr

/-- What so many independent rows that are met at c give. -/
theorem pt_at {d : Nat} {rows t : List (List Int)} {c : Nat → Int} (hl : ∀ r ∈ rows, r.length = d + 1) (ht : ∀ r ∈ t, r.length = d + 1) (hcd : 0 < c d) (hfea : ∀ r ∈ rows, dot d (V r) c ≤ V r d * c d)
    (hmet : ∀ r ∈ t, dot d (V r) c = V r d * c d) (hspan : ∀ v : Nat → Int, (∀ r ∈ t, dot d (V r) v = 0) → ∀ i, i < d → v i = 0) : ∃ y, ptT rows d t = some y ∧ 0 < V y d ∧ ∀ i, i < d + 1 → V y i * c d = c i * V y d := by
  have hone : OneDir (d + 1) (t.map (ngR d)) := by
    refine ⟨c, ⟨d, by omega, by omega⟩, fun r hr => ?_, fun u hu => ?_⟩
    · obtain ⟨q, hq, rfl⟩ := List.mem_map.1 hr
      rw [ng_dot (ht q hq), hmet q hq]; omega
    · have hz := hspan (fun k => c d * u k + (-(u d)) * c k) fun r hr => by
        have h1 := hu (ngR d r) (List.mem_map.2 ⟨r, hr, rfl⟩)
        rw [ng_dot (ht r hr)] at h1
        have h2 := hmet r hr
        rw [dot_comm, dot_lc, dot_comm d u, dot_comm d c, h2]
        have h3 : dot d (V r) u = V r d * u d := by omega
        rw [h3]; grind
      have key : ∀ i, i < d + 1 → c d * u i = u d * c i := fun i hi => by
        by_cases e : i = d
        · rw [e]; exact Int.mul_comm _ _
        · have := hz i (by omega)
          grind
      intro i j hi hj
      have e : c d * (u i * c j - u j * c i) = 0 := by
        have : c d * (u i * c j - u j * c i) = (c d * u i) * c j - (c d * u j) * c i := by grind
        rw [this, key i hi, key j hj]; grind
      rcases Int.mul_eq_zero.1 e with h | h
      · omega
      · omega
  have hb := norm_one_iff.2 hone
  have hlen : (pickL (d + 1) (t.map (ngR d))).length + 1 = d + 1 := by simpa [normB] using hb
  obtain ⟨⟨p, hp, hne⟩, _, hpar⟩ := norm_spec hlen
  have hck : ∀ r ∈ t.map (ngR d), dot (d + 1) (V r) c = 0 := fun r hr => by
    obtain ⟨q, hq, rfl⟩ := List.mem_map.1 hr
    rw [ng_dot (ht q hq), hmet q hq]; omega
  have hp2 := hpar c hck
  have hMd : V (normL (d + 1) (t.map (ngR d))) d ≠ 0 := fun e => by
    have := hp2 p d hp (by omega)
    rw [e, Int.mul_zero] at this
    rcases Int.mul_eq_zero.1 this.symm with h | h
    · omega
    · exact hne h
  -- which way it looks
  have hy : 0 < V (ptY d t) d ∧ ∀ i, i < d + 1 → V (ptY d t) i * c d = c i * V (ptY d t) d := by
    unfold ptY
    have hMd' : (normL (d + 1) (t.map (ngR d))).getD d 0 ≠ 0 := hMd
    by_cases hn : (normL (d + 1) (t.map (ngR d))).getD d 0 < 0
    · rw [if_pos hn]
      have hn' : V (normL (d + 1) (t.map (ngR d))) d < 0 := hn
      refine ⟨by rw [V_neg]; omega, fun i hi => ?_⟩
      have := hp2 i d hi (by omega)
      rw [V_neg, V_neg]
      grind
    · rw [if_neg hn]
      have hn' : ¬ V (normL (d + 1) (t.map (ngR d))) d < 0 := hn
      refine ⟨by omega, fun i hi => ?_⟩
      have := hp2 i d hi (by omega)
      grind
  have hK : ∀ r ∈ rows, dot d (V r) (V (ptY d t)) ≤ V r d * V (ptY d t) d := fun r hr => by
    have h1 := hfea r hr
    have e : dot d (V r) (V (ptY d t)) * c d = dot d (V r) c * V (ptY d t) d := by
      unfold dot
      rw [← sumN_mul_right, ← sumN_mul_right]
      refine sumN_congr fun i hi => ?_
      have := hy.2 i (by omega)
      grind
    have h2 : dot d (V r) (V (ptY d t)) * c d ≤ V r d * V (ptY d t) d * c d := by
      rw [e]
      have := Int.mul_le_mul_of_nonneg_right h1 (Int.le_of_lt hy.1)
      have e2 : V r d * V (ptY d t) d * c d = V r d * c d * V (ptY d t) d := by grind
      omega
    exact Int.le_of_mul_le_mul_right h2 hcd
  refine ⟨ptY d t, ?_, hy.1, hy.2⟩
  unfold ptT
  rw [if_pos ⟨hb, hMd, (ptK_iff hl).2 hK⟩]

/-- A place that comes of a choice keeps all rows. -/
theorem pt_fea {d : Nat} {rows t : List (List Int)} {y : List Int} (hl : ∀ r ∈ rows, r.length = d + 1) (h : ptT rows d t = some y) : Fea d rows (V y) (V y d) := by
  unfold ptT at h
  split at h
  case isTrue hc =>
    simp only [Option.some.injEq] at h
    subst h
    refine ⟨?_, (ptK_iff hl).1 hc.2.2⟩
    have hne := hc.2.1
    unfold ptY
    by_cases hn : (normL (d + 1) (t.map (ngR d))).getD d 0 < 0
    · rw [if_pos hn, V_neg]
      have hn' : V (normL (d + 1) (t.map (ngR d))) d < 0 := hn
      omega
    · rw [if_neg hn]
      have h1 : V (normL (d + 1) (t.map (ngR d))) d ≠ 0 := hne
      have h2 : ¬ V (normL (d + 1) (t.map (ngR d))) d < 0 := hn
      omega
  case isFalse => cases h

/-- Where rows hold, so many rows and axes meet at a place at which they hold, too; the goal is there what it was, if what is met bears it. -/
theorem basic {d : Nat} {rows : List (List Int)} (hl : ∀ r ∈ rows, r.length = d + 1) {x : Nat → Int} {w : Int} (hf : Fea d rows x w) {G : Nat → Int}
    (hG : ∀ v : Nat → Int, (∀ r ∈ rows, dot d (V r) x = V r d * w → dot d (V r) v = 0) → dot d G v = 0) :
    ∃ t y, t.Sublist (allR d rows) ∧ t.length = d ∧ ptT rows d t = some y ∧ 0 < V y d ∧ dot d G (V y) * w = dot d G x * V y d := by
  obtain ⟨σ, hσ⟩ : ∃ σ : Nat → Int, σ = fun k => if 0 ≤ x k then 1 else -1 := ⟨_, rfl⟩
  have hσ1 : ∀ k, (σ k = 1 ∧ 0 ≤ x k) ∨ (σ k = -1 ∧ x k < 0) := fun k => by
    rw [hσ]
    by_cases h : 0 ≤ x k
    · simp [h]
    · simp [h]; omega
  obtain ⟨Z, hZ⟩ : ∃ Z : List (Nat → Int), Z = rows.map (hom d) ++ (List.range d).map fun k => fun j => if j = k then - σ k else 0 := ⟨_, rfl⟩
  have hZr : ∀ r ∈ rows, hom d r ∈ Z := fun r hr => by rw [hZ]; exact List.mem_append_left _ (List.mem_map.2 ⟨r, hr, rfl⟩)
  have hZa : ∀ k, k < d → (fun j => if j = k then - σ k else 0) ∈ Z := fun k hk => by rw [hZ]; exact List.mem_append_right _ (List.mem_map.2 ⟨k, by simpa using hk, rfl⟩)
  have haxd : ∀ k, k < d → ∀ c : Nat → Int, dot (d + 1) c (fun j => if j = k then - σ k else 0) = - σ k * c k := fun k hk c => by
    have : dot (d + 1) c (fun j => if j = k then - σ k else 0) = - σ k * dot (d + 1) (unit k) c := by
      unfold dot
      rw [← sumN_mul]
      refine sumN_congr fun i _ => ?_
      unfold unit
      by_cases e : i = k
      · simp only [e, if_true]; grind
      · simp [e]
    rw [this, dot_unit (by omega)]
  have hZc : ∀ z ∈ Z, (∃ r ∈ rows, z = hom d r) ∨ ∃ k, k < d ∧ z = fun j => if j = k then - σ k else 0 := fun z hz => by
    rw [hZ] at hz
    rcases List.mem_append.1 hz with h | h
    · obtain ⟨r, hr, rfl⟩ := List.mem_map.1 h
      exact .inl ⟨r, hr, rfl⟩
    · obtain ⟨k, hk, rfl⟩ := List.mem_map.1 h
      exact .inr ⟨k, by simpa using hk, rfl⟩
  have hcx : ∀ r ∈ rows, dot (d + 1) (fun k => if k = d then w else x k) (hom d r) = dot d (V r) x - V r d * w := fun r _ => by
    rw [hom_dot]
    simp only [if_true]
    congr 1
    exact dot_congr (fun _ _ => rfl) fun i hi => by rw [if_neg (by omega)]
  have hG0 : dot d G (fun k => if k = d then w else x k) = dot d G x := dot_congr (fun _ _ => rfl) fun i hi => by rw [if_neg (by omega)]
  obtain ⟨c, k1, k2, k3, k4⟩ := to_corner (d := d) (Z := Z) (G := G) (fun v hv ⟨i, hi, hne⟩ => ⟨_, hZa i hi, by
      rw [haxd i hi]
      rcases hσ1 i with ⟨h, _⟩ | ⟨h, _⟩ <;> rw [h] <;> omega⟩) _ (fun k => if k = d then w else x k) (Nat.le_refl _) (fun z hz => by
      rcases hZc z hz with ⟨r, hr, rfl⟩ | ⟨k, hk, rfl⟩
      · rw [hcx r hr]; have := hf.2 r hr; omega
      · rw [haxd k hk, if_neg (by omega)]
        rcases hσ1 k with ⟨h, hx⟩ | ⟨h, hx⟩ <;> rw [h] <;> omega) (by simp only [if_true]; exact hf.1) (fun v hv hz => hG v fun r hr hrt => by
      have := hz _ (hZr r hr) (by rw [hcx r hr, hrt]; omega)
      rw [hom_dot, hv] at this
      omega)
  rw [hG0] at k3
  simp only [if_true] at k3
  have hcf : ∀ r ∈ rows, dot d (V r) c ≤ V r d * c d := fun r hr => by
    have := k1 _ (hZr r hr)
    rw [hom_dot] at this
    omega
  have hspan : ∀ v : Nat → Int, (∀ r ∈ metF2 d rows c, dot d (V r) v = 0) → ∀ i, i < d → v i = 0 := by
    intro v hv i hi
    have := k4 (fun k => if k = d then 0 else v k) (by simp) (fun z hz h0 => by
      rcases hZc z hz with ⟨r, hr, rfl⟩ | ⟨k, hk, rfl⟩
      · rw [hom_dot] at h0 ⊢
        simp only [if_true]
        have h1 : dot d (V r) (fun k => if k = d then 0 else v k) = dot d (V r) v := dot_congr (fun _ _ => rfl) fun i hi => by rw [if_neg (by omega)]
        rw [h1, hv r (by
          unfold metF2 allR
          rw [List.mem_filter]
          exact ⟨List.mem_append_left _ hr, by simp; omega⟩)]
        omega
      · rw [haxd k hk] at h0 ⊢
        have hck : c k = 0 := by
          rcases hσ1 k with ⟨h, _⟩ | ⟨h, _⟩ <;> rw [h] at h0 <;> omega
        have h2 := hv (axR d k) (by
          unfold metF2 allR
          rw [List.mem_filter]
          refine ⟨List.mem_append_right _ (List.mem_map.2 ⟨k, by simpa using hk, rfl⟩), ?_⟩
          rw [decide_eq_true_eq, axR_dot hk, axR_last hk, hck]; omega)
        rw [axR_dot hk] at h2
        rw [if_neg (by omega), h2]; omega) i hi
    rw [if_neg (by omega)] at this
    exact this
  have hg := pick_greedy d (metF2 d rows c)
  have hfull := (greedy_full hg).2 fun v hv => hspan v fun r hr => hv (V r) (mem_fm.2 ⟨r, hr, rfl⟩)
  rw [fm_length] at hfull
  have hsub := pick_sub d (metF2 d rows c)
  have hmem : ∀ r ∈ pickL d (metF2 d rows c), r.length = d + 1 ∧ dot d (V r) c = V r d * c d := fun r hr => by
    have h1 := List.mem_filter.1 (hsub.subset hr)
    refine ⟨?_, by simpa using h1.2⟩
    rcases List.mem_append.1 h1.1 with h | h
    · exact hl r h
    · obtain ⟨k, _, rfl⟩ := List.mem_map.1 h
      exact axR_len d k
  obtain ⟨y, hy1, hy2, hy3⟩ := pt_at hl (fun r hr => (hmem r hr).1) k2 hcf (fun r hr => (hmem r hr).2) (fun v hv => orth_none hg.free (by rw [fm_length]; exact hfull) fun r hr => by
    obtain ⟨l, hlm, rfl⟩ := mem_fm.1 hr
    exact hv l hlm)
  refine ⟨_, y, hsub.trans List.filter_sublist, hfull, hy1, hy2, ?_⟩
  have e : dot d G (V y) * c d = dot d G c * V y d := by
    unfold dot
    rw [← sumN_mul_right, ← sumN_mul_right]
    refine sumN_congr fun i hi => ?_
    have := hy3 i (by omega)
    grind
  have k6 : c d * (dot d G (V y) * w) = c d * (dot d G x * V y d) := by
    have e1 : c d * (dot d G (V y) * w) = (dot d G (V y) * c d) * w := by grind
    have e2 : c d * (dot d G x * V y d) = (dot d G x * c d) * V y d := by grind
    rw [e1, e2, e, ← k3]; grind
  exact Int.eq_of_mul_eq_mul_left (by omega) k6

/-- What the document says: nothing is in a cut, if no choice of rows and axes gives a place. -/
def docE (d : Nat) (rows : List (List Int)) : Bool := (chosenL d (allR d rows).length).all fun c => (ptT rows d (pks (allR d rows) [] c)).isNone

theorem chosen_sub {k : Nat} {L t : List (List Int)} (hs : t.Sublist L) (hl : t.length = k) : ∃ c ∈ chosenL k L.length, pks L [] c = t := by
  have hx := chz_ext L [] k 0
  rw [List.drop_zero] at hx
  have hm : t ∈ chz k L := chz_mem.2 ⟨hs, hl⟩
  rw [← hx] at hm
  obtain ⟨c, hc, he⟩ := List.mem_map.1 hm
  exact ⟨c, chosen_ext.2 hc, he⟩

theorem doc_emp {d : Nat} {rows : List (List Int)} (hl : ∀ r ∈ rows, r.length = d + 1) : docE d rows = empB d rows := by
  cases he : empB d rows with
  | true =>
    unfold docE
    rw [List.all_eq_true]
    intro c _
    cases hp : ptT rows d (pks (allR d rows) [] c) with
    | none => rfl
    | some y =>
      have := emp_fea.2 ⟨_, _, pt_fea hl hp⟩
      rw [he] at this; cases this
  | false =>
    obtain ⟨x, w, hf⟩ := emp_fea.1 he
    obtain ⟨t, y, h1, h2, h3, _⟩ := basic hl hf (G := fun _ => 0) (fun v _ => dot_zero fun _ _ => rfl)
    obtain ⟨c, hc, hcp⟩ := chosen_sub h1 h2
    rw [Bool.eq_false_iff]
    intro h
    unfold docE at h
    rw [List.all_eq_true] at h
    have := h c hc
    rw [hcp, h3] at this
    cases this

end Go.Proofs.YtknomkajibfmlaaGreat
