import Derived.Test.YtnalejokjapofaaFkA
import Derived.Test.YtnalejokjapofaaEmp1
import Derived.Test.YtnalejokjapofaaCvA
import Derived.Test.YtnalejokjapofaaPeA
/- Where rows hold at all, they hold at a place where so many of them are met, or numbers are 0, that there is no other one (pure). -/
namespace Go.Proofs.Ytnalejokjapofaa
open Lin

/-- All rows hold at x by w. -/
def Fea (d : Nat) (rows : List (List Int)) (x : Nat → Int) (w : Int) : Prop := 0 < w ∧ ∀ r ∈ rows, dot d (V r) x ≤ V r d * w

theorem dot_last (d : Nat) (a x : Nat → Int) : dot (d + 1) a x = dot d a x + a d * x d := rfl

theorem ref_last (d : Nat) (c : Nat → Int) : dot (refG d).length c (V (refG d)) = - c d := by
  rw [refG_len, dot_last]
  have h0 : dot d c (V (refG d)) = 0 := by
    rw [dot_comm]
    refine dot_zero fun i hi => ?_
    simp [V, refG, show i < d + 1 by omega, show ¬ i = d by omega]
  have h1 : V (refG d) d = -1 := by simp [V, refG]
  rw [h0, h1]; omega

/-- A cut is empty just if its rows hold nowhere. -/
theorem emp_fea {d : Nat} {rows : List (List Int)} : empB d rows = false ↔ ∃ x w, Fea d rows x w := by
  have he : empB d rows = false ↔ waysL rows (refG d) = [] := by
    unfold empB
    cases waysL rows (refG d) <;> simp
  rw [he, ways_none]
  constructor
  · rintro ⟨c, h1, h2⟩
    rw [ref_last] at h2
    refine ⟨c, - c d, h2, fun r hr => ?_⟩
    have := h1 r hr
    rw [refG_len, dot_last, dot_comm] at this
    have e : V r d * - c d = -(c d * V r d) := by grind
    omega
  · rintro ⟨x, w, hw, h⟩
    refine ⟨fun k => if k = d then -w else x k, fun r hr => ?_, ?_⟩
    · have h1 := h r hr
      rw [refG_len, dot_last]
      simp only [if_true]
      have e : dot d (fun k => if k = d then -w else x k) (V r) = dot d (V r) x := by
        rw [dot_comm]
        exact dot_congr (fun _ _ => rfl) fun i hi => by rw [if_neg (by omega)]
      rw [e]
      have e2 : -w * V r d = -(V r d * w) := by grind
      omega
    · rw [ref_last]
      simp only [if_true]; omega

/-- The rows, and the axes. -/
def axR (d k : Nat) : List Int := (List.range (d + 1)).map fun j => if j = k then 1 else 0
def axsL (d : Nat) : List (List Int) := (List.range d).map (axR d)
def allR (d : Nat) (rows : List (List Int)) : List (List Int) := rows ++ axsL d

theorem axR_len (d k : Nat) : (axR d k).length = d + 1 := by simp [axR]
theorem axR_V {d k j : Nat} (hj : j < d + 1) : V (axR d k) j = if j = k then 1 else 0 := by simp [V, axR, hj]
theorem axR_dot {d k : Nat} (hk : k < d) (x : Nat → Int) : dot d (V (axR d k)) x = x k := by
  have : dot d (V (axR d k)) x = dot d (unit k) x := dot_congr (fun i hi => by rw [axR_V (by omega)]; rfl) fun _ _ => rfl
  rw [this, dot_unit hk]
theorem axR_last {d k : Nat} (hk : k < d) : V (axR d k) d = 0 := by rw [axR_V (by omega), if_neg (by omega)]

/-- A row, as a direction of one dimension more. -/
def hom (d : Nat) (r : List Int) : Nat → Int := fun k => if k = d then - V r d else V r k
theorem hom_dot (d : Nat) (r : List Int) (c : Nat → Int) : dot (d + 1) c (hom d r) = dot d (V r) c - V r d * c d := by
  rw [dot_last]
  have e : dot d c (hom d r) = dot d (V r) c := by
    rw [dot_comm]
    exact dot_congr (fun i hi => by unfold hom; rw [if_neg (by omega)]) fun _ _ => rfl
  rw [e]
  unfold hom
  simp only [if_true]
  grind

/-- From a place where rows hold on to one where nothing is left to go: the goal stays as it is. -/
theorem to_corner {d : Nat} {Z : List (Nat → Int)} {G : Nat → Int} (hax : ∀ v : Nat → Int, v d = 0 → (∃ i, i < d ∧ v i ≠ 0) → ∃ z ∈ Z, dot (d + 1) v z ≠ 0) :
    ∀ (n : Nat) (c : Nat → Int), loose (d + 1) Z c ≤ n → (∀ z ∈ Z, dot (d + 1) c z ≤ 0) → 0 < c d → (∀ v : Nat → Int, v d = 0 → (∀ z ∈ Z, dot (d + 1) c z = 0 → dot (d + 1) v z = 0) → dot d G v = 0) →
    ∃ c' : Nat → Int, (∀ z ∈ Z, dot (d + 1) c' z ≤ 0) ∧ 0 < c' d ∧ dot d G c' * c d = dot d G c * c' d ∧ ∀ v : Nat → Int, v d = 0 → (∀ z ∈ Z, dot (d + 1) c' z = 0 → dot (d + 1) v z = 0) → ∀ i, i < d → v i = 0 := by
  intro n
  induction n with
  | zero =>
    intro c hn hc hcd hG
    refine ⟨c, hc, hcd, rfl, fun v hv hz i hi => ?_⟩
    apply Classical.byContradiction
    intro hne
    obtain ⟨z, hzm, hzn⟩ := hax v hv ⟨i, hi, hne⟩
    have h0 : loose (d + 1) Z c = 0 := by omega
    unfold loose at h0
    rw [List.countP_eq_zero] at h0
    exact hzn (hz z hzm (by have := h0 z hzm; simpa using this))
  | succ n ih =>
    intro c hn hc hcd hG
    by_cases hs : ∀ v : Nat → Int, v d = 0 → (∀ z ∈ Z, dot (d + 1) c z = 0 → dot (d + 1) v z = 0) → ∀ i, i < d → v i = 0
    · exact ⟨c, hc, hcd, rfl, hs⟩
    · have : ∃ v : Nat → Int, v d = 0 ∧ (∀ z ∈ Z, dot (d + 1) c z = 0 → dot (d + 1) v z = 0) ∧ ∃ z ∈ Z, 0 < dot (d + 1) v z := by
        apply Classical.byContradiction
        intro hno
        apply hs
        intro v hv hz i hi
        apply Classical.byContradiction
        intro hne
        obtain ⟨z, hzm, hzn⟩ := hax v hv ⟨i, hi, hne⟩
        by_cases hp : 0 < dot (d + 1) v z
        · exact hno ⟨v, hv, hz, z, hzm, hp⟩
        · refine hno ⟨fun k => - v k, by simp [hv], fun z hz' h0 => by rw [dot_neg, hz z hz' h0]; rfl, z, hzm, by rw [dot_neg]; omega⟩
      obtain ⟨v, hv, hz, hp⟩ := this
      obtain ⟨s, r, hs0, hr0, h1, h2⟩ := ray hc hz hp
      have hcd' : 0 < s * c d + r * v d := by rw [hv]; have := Int.mul_pos hs0 hcd; omega
      have htight : ∀ z ∈ Z, dot (d + 1) c z = 0 → dot (d + 1) (fun k => s * c k + r * v k) z = 0 := fun z hzm h0 => by rw [dot_lc, h0, hz z hzm h0]; omega
      obtain ⟨c', k1, k2, k3, k4⟩ := ih (fun k => s * c k + r * v k) (by omega) h1 hcd' (fun u hu hzu => hG u hu fun z hzm h0 => hzu z hzm (htight z hzm h0))
      refine ⟨c', k1, k2, ?_, k4⟩
      have e1 : dot d G (fun k => s * c k + r * v k) = s * dot d G c := by
        rw [dot_comm, dot_lc, dot_comm d c, dot_comm d v, hG v hv hz]; omega
      rw [e1, hv] at k3
      have k5 : s * (dot d G c' * c d) = s * (dot d G c * c' d) := by
        have : dot d G c' * (s * c d + r * 0) = s * (dot d G c' * c d) := by grind
        rw [← this, k3]; grind
      exact Int.eq_of_mul_eq_mul_left (by omega) k5

/-- The rows that are met at c, and the axes on which it is 0. -/
def metF2 (d : Nat) (rows : List (List Int)) (c : Nat → Int) : List (List Int) := (allR d rows).filter fun r => decide (dot d (V r) c = V r d * c d)

theorem pick_sub (c : Nat) (m : List (List Int)) : (pickL c m).Sublist m := by
  have : ∀ (m h : List (List Int)), ∃ s, s.Sublist m ∧ m.foldl (fun h r => if freeL c (h ++ [r]) then h ++ [r] else h) h = h ++ s := by
    intro m
    induction m with
    | nil => intro h; exact ⟨[], List.Sublist.refl _, by simp⟩
    | cons x m ih =>
      intro h
      rw [List.foldl_cons]
      by_cases hf : freeL c (h ++ [x]) = true
      · rw [if_pos hf]
        obtain ⟨s, hs, he⟩ := ih (h ++ [x])
        exact ⟨x :: s, hs.cons_cons _, by rw [he]; simp⟩
      · rw [if_neg hf]
        obtain ⟨s, hs, he⟩ := ih h
        exact ⟨s, hs.cons _, he⟩
  obtain ⟨s, hs, he⟩ := this m []
  unfold pickL
  rw [he]; simpa using hs

theorem ng_dot {d : Nat} {r : List Int} (hr : r.length = d + 1) (u : Nat → Int) : dot (d + 1) (V (ngR d r)) u = dot d (V r) u - V r d * u d := by
  rw [dot_last]
  have e1 : dot d (V (ngR d r)) u = dot d (V r) u := dot_congr (fun i hi => by unfold V; rw [ngR_get hr (by omega), if_neg (by omega)]) fun _ _ => rfl
  have e2 : V (ngR d r) d = - V r d := by unfold V; rw [ngR_get hr (by omega), if_pos rfl]
  rw [e1, e2]; grind

theorem dotL_take {d : Nat} {r : List Int} (hr : r.length = d + 1) (y : List Int) : dotL (r.take d) y = dot d (V r) (V y) := by
  unfold dotL dot
  rw [List.length_take, hr, show min d (d + 1) = d by omega]
  refine sumN_congr fun i hi => ?_
  unfold V
  rw [List.getD_eq_getElem?_getD, List.getElem?_take_of_lt hi, List.getD_eq_getElem?_getD, List.getD_eq_getElem?_getD]

theorem ptK_iff {d : Nat} {rows : List (List Int)} (hl : ∀ r ∈ rows, r.length = d + 1) {y : List Int} : ptK rows d y = true ↔ ∀ r ∈ rows, dot d (V r) (V y) ≤ V r d * V y d := by
  unfold ptK
  rw [List.all_eq_true]
  constructor
  · intro h r hr
    have := h r hr
    rw [decide_eq_true_eq, dotL_take (hl r hr)] at this
    exact this
  · intro h r hr
    rw [decide_eq_true_eq, dotL_take (hl r hr)]
    exact h r hr

/-- What so many independent rows that are met at c give. -/
theorem pt_at {d : Nat} {rows t : List (List Int)} {c : Nat → Int} (hl : ∀ r ∈ rows, r.length = d + 1) (ht : ∀ r ∈ t, r.length = d + 1) (hcd : 0 < c d) (hfea : ∀ r ∈ rows, dot d (V r) c ≤ V r d * c d)
    (hmet : ∀ r ∈ t, dot d (V r) c = V r d * c d) (hspan : ∀ v : Nat → Int, (∀ r ∈ t, dot d (V r) v = 0) → ∀ i, i < d → v i = 0) : ∃ y, ptT rows d t = some y ∧ 0 < V y d ∧ ∀ i, i < d + 1 → V y i * c d = c i * V y d := by
  have hone : OneDir (d + 1) (t.map (ngR d)) := by
    refine ⟨c, ⟨d, by omega, by omega⟩, fun r hr => ?_, fun u hu => ?_⟩
    · obtain ⟨q, hq, rfl⟩ := List.mem_map.1 hr
      rw [ng_dot (ht q hq), hmet q hq]; omega
    · have hz := hspan (fun k => c d * u k + (-(u d)) * c k) fun r hr => by
        have h1 := hu (ngR d r) (List.mem_map.2 ⟨r, hr, rfl⟩)
        rw [ng_dot (ht r hr)] at h1
        have h2 := hmet r hr
        rw [dot_comm, dot_lc, dot_comm d u, dot_comm d c, h2]
        have h3 : dot d (V r) u = V r d * u d := by omega
        rw [h3]; grind
      have key : ∀ i, i < d + 1 → c d * u i = u d * c i := fun i hi => by
        by_cases e : i = d
        · rw [e]; exact Int.mul_comm _ _
        · have := hz i (by omega)
          grind
      intro i j hi hj
      have e : c d * (u i * c j - u j * c i) = 0 := by
        have : c d * (u i * c j - u j * c i) = (c d * u i) * c j - (c d * u j) * c i := by grind
        rw [this, key i hi, key j hj]; grind
      rcases Int.mul_eq_zero.1 e with h | h
      · omega
      · omega
  have hb := norm_one_iff.2 hone
  have hlen : (pickL (d + 1) (t.map (ngR d))).length + 1 = d + 1 := by simpa [normB] using hb
  obtain ⟨⟨p, hp, hne⟩, _, hpar⟩ := norm_spec hlen
  have hck : ∀ r ∈ t.map (ngR d), dot (d + 1) (V r) c = 0 := fun r hr => by
    obtain ⟨q, hq, rfl⟩ := List.mem_map.1 hr
    rw [ng_dot (ht q hq), hmet q hq]; omega
  have hp2 := hpar c hck
  have hMd : V (normL (d + 1) (t.map (ngR d))) d ≠ 0 := fun e => by
    have := hp2 p d hp (by omega)
    rw [e, Int.mul_zero] at this
    rcases Int.mul_eq_zero.1 this.symm with h | h
    · omega
    · exact hne h
  -- which way it looks
  have hy : 0 < V (ptY d t) d ∧ ∀ i, i < d + 1 → V (ptY d t) i * c d = c i * V (ptY d t) d := by
    unfold ptY
    have hMd' : (normL (d + 1) (t.map (ngR d))).getD d 0 ≠ 0 := hMd
    by_cases hn : (normL (d + 1) (t.map (ngR d))).getD d 0 < 0
    · rw [if_pos hn]
      have hn' : V (normL (d + 1) (t.map (ngR d))) d < 0 := hn
      refine ⟨by rw [V_neg]; omega, fun i hi => ?_⟩
      have := hp2 i d hi (by omega)
      rw [V_neg, V_neg]
      grind
    · rw [if_neg hn]
      have hn' : ¬ V (normL (d + 1) (t.map (ngR d))) d < 0 := hn
      refine ⟨by omega, fun i hi => ?_⟩
      have := hp2 i d hi (by omega)
      grind
  have hK : ∀ r ∈ rows, dot d (V r) (V (ptY d t)) ≤ V r d * V (ptY d t) d := fun r hr => by
    have h1 := hfea r hr
    have e : dot d (V r) (V (ptY d t)) * c d = dot d (V r) c * V (ptY d t) d := by
      unfold dot
      rw [← sumN_mul_right, ← sumN_mul_right]
      refine sumN_congr fun i hi => ?_
      have := hy.2 i (by omega)
      grind
    have h2 : dot d (V r) (V (ptY d t)) * c d ≤ V r d * V (ptY d t) d * c d := by
      rw [e]
      have := Int.mul_le_mul_of_nonneg_right h1 (Int.le_of_lt hy.1)
      have e2 : V r d * V (ptY d t) d * c d = V r d * c d * V (ptY d t) d := by grind
      omega
    exact Int.le_of_mul_le_mul_right h2 hcd
  refine ⟨ptY d t, ?_, hy.1, hy.2⟩
  unfold ptT
  rw [if_pos ⟨hb, hMd, (ptK_iff hl).2 hK⟩]

/-- A place that comes of a choice keeps all rows. -/
theorem pt_fea {d : Nat} {rows t : List (List Int)} {y : List Int} (hl : ∀ r ∈ rows, r.length = d + 1) (h : ptT rows d t = some y) : Fea d rows (V y) (V y d) := by
  unfold ptT at h
  split at h
  case isTrue hc =>
    simp only [Option.some.injEq] at h
    subst h
    refine ⟨?_, (ptK_iff hl).1 hc.2.2⟩
    have hne := hc.2.1
    unfold ptY
    by_cases hn : (normL (d + 1) (t.map (ngR d))).getD d 0 < 0
    · rw [if_pos hn, V_neg]
      have hn' : V (normL (d + 1) (t.map (ngR d))) d < 0 := hn
      omega
    · rw [if_neg hn]
      have h1 : V (normL (d + 1) (t.map (ngR d))) d ≠ 0 := hne
      have h2 : ¬ V (normL (d + 1) (t.map (ngR d))) d < 0 := hn
      omega
  case isFalse => cases h

/-- Where rows hold, so many rows and axes meet at a place at which they hold, too; the goal is there what it was, if what is met bears it. -/
theorem basic {d : Nat} {rows : List (List Int)} (hl : ∀ r ∈ rows, r.length = d + 1) {x : Nat → Int} {w : Int} (hf : Fea d rows x w) {G : Nat → Int}
    (hG : ∀ v : Nat → Int, (∀ r ∈ rows, dot d (V r) x = V r d * w → dot d (V r) v = 0) → dot d G v = 0) :
    ∃ t y, t.Sublist (allR d rows) ∧ t.length = d ∧ ptT rows d t = some y ∧ 0 < V y d ∧ dot d G (V y) * w = dot d G x * V y d := by
  obtain ⟨σ, hσ⟩ : ∃ σ : Nat → Int, σ = fun k => if 0 ≤ x k then 1 else -1 := ⟨_, rfl⟩
  have hσ1 : ∀ k, (σ k = 1 ∧ 0 ≤ x k) ∨ (σ k = -1 ∧ x k < 0) := fun k => by
    rw [hσ]
    by_cases h : 0 ≤ x k
    · simp [h]
    · simp [h]; omega
  obtain ⟨Z, hZ⟩ : ∃ Z : List (Nat → Int), Z = rows.map (hom d) ++ (List.range d).map fun k => fun j => if j = k then - σ k else 0 := ⟨_, rfl⟩
  have hZr : ∀ r ∈ rows, hom d r ∈ Z := fun r hr => by rw [hZ]; exact List.mem_append_left _ (List.mem_map.2 ⟨r, hr, rfl⟩)
  have hZa : ∀ k, k < d → (fun j => if j = k then - σ k else 0) ∈ Z := fun k hk => by rw [hZ]; exact List.mem_append_right _ (List.mem_map.2 ⟨k, by simpa using hk, rfl⟩)
  have haxd : ∀ k, k < d → ∀ c : Nat → Int, dot (d + 1) c (fun j => if j = k then - σ k else 0) = - σ k * c k := fun k hk c => by
    have : dot (d + 1) c (fun j => if j = k then - σ k else 0) = - σ k * dot (d + 1) (unit k) c := by
      unfold dot
      rw [← sumN_mul]
      refine sumN_congr fun i _ => ?_
      unfold unit
      by_cases e : i = k
      · simp only [e, if_true]; grind
      · simp [e]
    rw [this, dot_unit (by omega)]
  have hZc : ∀ z ∈ Z, (∃ r ∈ rows, z = hom d r) ∨ ∃ k, k < d ∧ z = fun j => if j = k then - σ k else 0 := fun z hz => by
    rw [hZ] at hz
    rcases List.mem_append.1 hz with h | h
    · obtain ⟨r, hr, rfl⟩ := List.mem_map.1 h
      exact .inl ⟨r, hr, rfl⟩
    · obtain ⟨k, hk, rfl⟩ := List.mem_map.1 h
      exact .inr ⟨k, by simpa using hk, rfl⟩
  have hcx : ∀ r ∈ rows, dot (d + 1) (fun k => if k = d then w else x k) (hom d r) = dot d (V r) x - V r d * w := fun r _ => by
    rw [hom_dot]
    simp only [if_true]
    congr 1
    exact dot_congr (fun _ _ => rfl) fun i hi => by rw [if_neg (by omega)]
  have hG0 : dot d G (fun k => if k = d then w else x k) = dot d G x := dot_congr (fun _ _ => rfl) fun i hi => by rw [if_neg (by omega)]
  obtain ⟨c, k1, k2, k3, k4⟩ := to_corner (d := d) (Z := Z) (G := G) (fun v hv ⟨i, hi, hne⟩ => ⟨_, hZa i hi, by
      rw [haxd i hi]
      rcases hσ1 i with ⟨h, _⟩ | ⟨h, _⟩ <;> rw [h] <;> omega⟩) _ (fun k => if k = d then w else x k) (Nat.le_refl _) (fun z hz => by
      rcases hZc z hz with ⟨r, hr, rfl⟩ | ⟨k, hk, rfl⟩
      · rw [hcx r hr]; have := hf.2 r hr; omega
      · rw [haxd k hk, if_neg (by omega)]
        rcases hσ1 k with ⟨h, hx⟩ | ⟨h, hx⟩ <;> rw [h] <;> omega) (by simp only [if_true]; exact hf.1) (fun v hv hz => hG v fun r hr hrt => by
      have := hz _ (hZr r hr) (by rw [hcx r hr, hrt]; omega)
      rw [hom_dot, hv] at this
      omega)
  rw [hG0] at k3
  simp only [if_true] at k3
  have hcf : ∀ r ∈ rows, dot d (V r) c ≤ V r d * c d := fun r hr => by
    have := k1 _ (hZr r hr)
    rw [hom_dot] at this
    omega
  have hspan : ∀ v : Nat → Int, (∀ r ∈ metF2 d rows c, dot d (V r) v = 0) → ∀ i, i < d → v i = 0 := by
    intro v hv i hi
    have := k4 (fun k => if k = d then 0 else v k) (by simp) (fun z hz h0 => by
      rcases hZc z hz with ⟨r, hr, rfl⟩ | ⟨k, hk, rfl⟩
      · rw [hom_dot] at h0 ⊢
        simp only [if_true]
        have h1 : dot d (V r) (fun k => if k = d then 0 else v k) = dot d (V r) v := dot_congr (fun _ _ => rfl) fun i hi => by rw [if_neg (by omega)]
        rw [h1, hv r (by
          unfold metF2 allR
          rw [List.mem_filter]
          exact ⟨List.mem_append_left _ hr, by simp; omega⟩)]
        omega
      · rw [haxd k hk] at h0 ⊢
        have hck : c k = 0 := by
          rcases hσ1 k with ⟨h, _⟩ | ⟨h, _⟩ <;> rw [h] at h0 <;> omega
        have h2 := hv (axR d k) (by
          unfold metF2 allR
          rw [List.mem_filter]
          refine ⟨List.mem_append_right _ (List.mem_map.2 ⟨k, by simpa using hk, rfl⟩), ?_⟩
          rw [decide_eq_true_eq, axR_dot hk, axR_last hk, hck]; omega)
        rw [axR_dot hk] at h2
        rw [if_neg (by omega), h2]; omega) i hi
    rw [if_neg (by omega)] at this
    exact this
  have hg := pick_greedy d (metF2 d rows c)
  have hfull := (greedy_full hg).2 fun v hv => hspan v fun r hr => hv (V r) (mem_fm.2 ⟨r, hr, rfl⟩)
  rw [fm_length] at hfull
  have hsub := pick_sub d (metF2 d rows c)
  have hmem : ∀ r ∈ pickL d (metF2 d rows c), r.length = d + 1 ∧ dot d (V r) c = V r d * c d := fun r hr => by
    have h1 := List.mem_filter.1 (hsub.subset hr)
    refine ⟨?_, by simpa using h1.2⟩
    rcases List.mem_append.1 h1.1 with h | h
    · exact hl r h
    · obtain ⟨k, _, rfl⟩ := List.mem_map.1 h
      exact axR_len d k
  obtain ⟨y, hy1, hy2, hy3⟩ := pt_at hl (fun r hr => (hmem r hr).1) k2 hcf (fun r hr => (hmem r hr).2) (fun v hv => orth_none hg.free (by rw [fm_length]; exact hfull) fun r hr => by
    obtain ⟨l, hlm, rfl⟩ := mem_fm.1 hr
    exact hv l hlm)
  refine ⟨_, y, hsub.trans List.filter_sublist, hfull, hy1, hy2, ?_⟩
  have e : dot d G (V y) * c d = dot d G c * V y d := by
    unfold dot
    rw [← sumN_mul_right, ← sumN_mul_right]
    refine sumN_congr fun i hi => ?_
    have := hy3 i (by omega)
    grind
  have k6 : c d * (dot d G (V y) * w) = c d * (dot d G x * V y d) := by
    have e1 : c d * (dot d G (V y) * w) = (dot d G (V y) * c d) * w := by grind
    have e2 : c d * (dot d G x * V y d) = (dot d G x * c d) * V y d := by grind
    rw [e1, e2, e, ← k3]; grind
  exact Int.eq_of_mul_eq_mul_left (by omega) k6

/-- What the document says: nothing is in a cut, if no choice of rows and axes gives a place. -/
def docE (d : Nat) (rows : List (List Int)) : Bool := (chosenL d (allR d rows).length).all fun c => (ptT rows d (pks (allR d rows) [] c)).isNone

theorem chosen_sub {k : Nat} {L t : List (List Int)} (hs : t.Sublist L) (hl : t.length = k) : ∃ c ∈ chosenL k L.length, pks L [] c = t := by
  have hx := chz_ext L [] k 0
  rw [List.drop_zero] at hx
  have hm : t ∈ chz k L := chz_mem.2 ⟨hs, hl⟩
  rw [← hx] at hm
  obtain ⟨c, hc, he⟩ := List.mem_map.1 hm
  exact ⟨c, chosen_ext.2 hc, he⟩

theorem doc_emp {d : Nat} {rows : List (List Int)} (hl : ∀ r ∈ rows, r.length = d + 1) : docE d rows = empB d rows := by
  cases he : empB d rows with
  | true =>
    unfold docE
    rw [List.all_eq_true]
    intro c _
    cases hp : ptT rows d (pks (allR d rows) [] c) with
    | none => rfl
    | some y =>
      have := emp_fea.2 ⟨_, _, pt_fea hl hp⟩
      rw [he] at this; cases this
  | false =>
    obtain ⟨x, w, hf⟩ := emp_fea.1 he
    obtain ⟨t, y, h1, h2, h3, _⟩ := basic hl hf (G := fun _ => 0) (fun v _ => dot_zero fun _ _ => rfl)
    obtain ⟨c, hc, hcp⟩ := chosen_sub h1 h2
    rw [Bool.eq_false_iff]
    intro h
    unfold docE at h
    rw [List.all_eq_true] at h
    have := h c hc
    rw [hcp, h3] at this
    cases this

end Go.Proofs.Ytnalejokjapofaa

/- Duality (von Neumann): what is greatest in a cut is the least that ways say (pure). -/
namespace Go.Proofs.Ytnalejokjapofaa
open Lin

theorem way_nums {g : List Int} {t : List (List Int)} (h : wayB g t = true) : (wayN g t).length = t.length + 1 ∧ (∀ i, i < t.length + 1 → 0 < V (wayN g t) i) ∧ ∀ j, j < g.length → sv t (V (wayN g t)) j = V (wayN g t) t.length * V g j := by
  unfold wayB at h
  rw [Bool.and_eq_true] at h
  have hl := norm_len h.1
  have hpl : (pickL (t.length + 1) (acrL g t)).length + 1 = t.length + 1 := by simpa [normB] using h.1
  obtain ⟨_, hk, _⟩ := norm_spec hpl
  refine ⟨hl, fun i hi => ?_, rep_iff.1 hk⟩
  have hany : (wayN g t).any lowB = false := by simpa using h.2
  have hm : (wayN g t).getD i 0 ∈ wayN g t := getD_mem (by unfold wayN; rw [hl]; exact hi)
  have := List.any_eq_false.1 hany _ hm
  simp only [lowB, decide_eq_true_eq] at this
  show 0 < (wayN g t).getD i 0
  omega

/-- What a way says. -/
def wS (g : List Int) (t : List (List Int)) : Int := sv t (V (wayN g t)) g.length
def wU (g : List Int) (t : List (List Int)) : Int := V (wayN g t) t.length

theorem wU_pos {g : List Int} {t : List (List Int)} (h : wayB g t = true) : 0 < wU g t := (way_nums h).2.1 _ (by omega)

theorem way_ratio {g : List Int} {t : List (List Int)} (h : wayB g t = true) {a : Nat → Int} (hr : ∀ j, j < g.length → sv t a j = a t.length * V g j) : wS g t * a t.length = sv t a g.length * wU g t := by
  obtain ⟨b, hb, hbr, hpar⟩ := way_iff.1 h
  obtain ⟨_, hN, hNr⟩ := way_nums h
  have p1 := hpar _ hNr
  have p2 := hpar a hr
  have key : ∀ i, i < t.length + 1 → V (wayN g t) i * a t.length = V (wayN g t) t.length * a i := fun i hi => by
    have e1 := p1 i t.length hi (by omega)
    have e2 := p2 i t.length hi (by omega)
    have hbn := hb t.length (by omega)
    have e3 : b t.length * (V (wayN g t) i * a t.length) = b t.length * (V (wayN g t) t.length * a i) := by
      have : b t.length * (V (wayN g t) i * a t.length) = (V (wayN g t) i * b t.length) * a t.length := by grind
      rw [this, e1]
      have : b t.length * (V (wayN g t) t.length * a i) = V (wayN g t) t.length * (a i * b t.length) := by grind
      rw [this, e2]; grind
    exact Int.eq_of_mul_eq_mul_left (by omega) e3
  unfold wS wU
  rw [sv_eq, sv_eq, ← sumN_mul_right, ← sumN_mul_right]
  refine sumN_congr fun i hi => ?_
  have := key i (by omega)
  grind

/-- A sum of so much of rows, with a place. -/
theorem sv_dot (d : Nat) (t : List (List Int)) (a x : Nat → Int) : dot d (sv t a) x = sumN t.length fun i => a i * dot d (V (t.getD i [])) x := by
  have h := dot_sm d x (t.map V) a
  rw [dot_comm]
  show dot d x (sm (t.map V) a) = _
  rw [h, List.length_map]
  refine sumN_congr fun i hi => ?_
  have e2 : (t.map V).getD i (fun _ => 0) = V (t.getD i []) := by simp [hi]
  rw [e2, dot_comm]

theorem sv_fea {d : Nat} {rows t : List (List Int)} {x : Nat → Int} {w : Int} (hf : Fea d rows x w) (hs : ∀ r ∈ t, r ∈ rows) {a : Nat → Int} (ha : ∀ i, i < t.length → 0 ≤ a i) : dot d (sv t a) x ≤ sv t a d * w := by
  rw [sv_dot, sv_eq, ← sumN_mul_right]
  have : 0 ≤ sumN t.length fun i => (a i * V (t.getD i []) d * w) + -(a i * dot d (V (t.getD i [])) x) := sumN_nonneg fun i hi => by
    have h1 := hf.2 _ (hs (t.getD i []) (by simp [hi]))
    have h2 := Int.mul_nonneg (ha i hi) (show 0 ≤ V (t.getD i []) d * w - dot d (V (t.getD i [])) x by omega)
    have e : a i * V (t.getD i []) d * w + -(a i * dot d (V (t.getD i [])) x) = a i * (V (t.getD i []) d * w - dot d (V (t.getD i [])) x) := by grind
    omega
  rw [sumN_add, sumN_neg] at this
  omega

theorem sv_goal {d : Nat} {t : List (List Int)} {a x : Nat → Int} {g : List Int} (hg : g.length = d) (hr : ∀ j, j < g.length → sv t a j = a t.length * V g j) : dot d (sv t a) x = a t.length * dot d (V g) x := by
  have : dot d (sv t a) x = dot d (fun j => a t.length * V g j) x := dot_congr (fun i hi => hr i (by omega)) fun _ _ => rfl
  rw [this]
  unfold dot
  rw [← sumN_mul]
  exact sumN_congr fun i _ => by grind

/-- No place has more than a way says. -/
theorem weak {d : Nat} {rows t : List (List Int)} {x : Nat → Int} {w : Int} {g : List Int} (hg : g.length = d) (hf : Fea d rows x w) (hs : ∀ r ∈ t, r ∈ rows) (hw : wayB g t = true) : dot d (V g) x * wU g t ≤ wS g t * w := by
  obtain ⟨_, hp, hr⟩ := way_nums hw
  have h1 := sv_fea hf hs (a := V (wayN g t)) fun i hi => Int.le_of_lt (hp i (by omega))
  rw [sv_goal hg hr] at h1
  unfold wS wU
  rw [hg, Int.mul_comm (dot d (V g) x)]
  exact h1

/-- The least that ways say is met at a place where so many rows and axes meet. -/
theorem opt_at {d : Nat} {rows tb : List (List Int)} {g : List Int} (hg : g.length = d) {x0 : Nat → Int} {w0 : Int} (hf : Fea d rows x0 w0) (hsb : tb.Sublist rows) (hwb : wayB g tb = true)
    (hmin : ∀ t, t.Sublist rows → wayB g t = true → wS g tb * wU g t ≤ wS g t * wU g tb) :
    ∃ x w, Fea d rows x w ∧ dot d (V g) x * wU g tb = wS g tb * w ∧ ∀ v : Nat → Int, (∀ r ∈ rows, dot d (V r) x = V r d * w → dot d (V r) v = 0) → dot d (V g) v = 0 := by
  have hU := wU_pos hwb
  have hcyc : ∀ t : List (List Int), t.Sublist rows → ∀ w : Nat → Int, (∀ i, i < t.length → 0 ≤ w i) → (∀ j, j < g.length → sv t w j = 0) → 0 ≤ sv t w g.length := fun t ht w hw hz => by
    have h1 := sv_fea hf (fun r hr => ht.subset hr) hw
    have h2 : dot d (sv t w) x0 = 0 := dot_zero fun i hi => hz i (by omega)
    rw [h2] at h1
    rw [hg]
    rcases Int.lt_or_le (sv t w d) 0 with h | h
    · have := Int.mul_neg_of_neg_of_pos h hf.1; omega
    · exact h
  -- a place that has as much
  have hex : ∃ x w, Fea d rows x w ∧ wS g tb * w ≤ dot d (V g) x * wU g tb := by
    obtain ⟨rs, hrs⟩ : ∃ rs : List Int, rs = ((List.range d).map fun j => -(wU g tb * V g j)) ++ [-(wS g tb)] := ⟨_, rfl⟩
    have v1 : ∀ j, j < d → V rs j = -(wU g tb * V g j) := fun j hj => by
      rw [hrs]; unfold V
      rw [List.getD_eq_getElem?_getD, List.getElem?_append_left (by simpa using hj)]
      simp [hj]
    have v2 : V rs d = -(wS g tb) := by
      rw [hrs]; unfold V
      rw [List.getD_eq_getElem?_getD, List.getElem?_append_right (by simp)]; simp
    have hdr : ∀ x, dot d (V rs) x = -(wU g tb * dot d (V g) x) := fun x => by
      unfold dot
      rw [← sumN_mul, ← sumN_neg]
      exact sumN_congr fun i hi => by rw [v1 i hi]; grind
    cases he : empB d (rs :: rows) with
    | false =>
      obtain ⟨x, w, hw, h⟩ := emp_fea.1 he
      refine ⟨x, w, ⟨hw, fun r hr => h r (List.mem_cons_of_mem _ hr)⟩, ?_⟩
      have := h rs (List.mem_cons_self ..)
      rw [hdr, v2] at this
      have e1 : dot d (V g) x * wU g tb = wU g tb * dot d (V g) x := Int.mul_comm _ _
      have e2 : -(wS g tb) * w = -(wS g tb * w) := by grind
      omega
    | true =>
      exfalso
      have hne : waysL (rs :: rows) (refG d) ≠ [] := fun h => by unfold empB at he; rw [h] at he; cases he
      obtain ⟨t, hts, htw⟩ := ways_some.1 hne
      obtain ⟨a, hp, hr, _⟩ := way_iff.1 htw
      have r0 : ∀ j, j < d → V (refG d) j = 0 := fun j hj => by simp [V, refG, show j < d + 1 by omega, show ¬ j = d by omega]
      have rd : V (refG d) d = -1 := by simp [V, refG]
      have hn := hp t.length (by omega)
      have hz : ∀ j, j < d → sv t a j = 0 := fun j hj => by rw [hr j (by rw [refG_len]; omega), r0 j hj]; omega
      have hd : sv t a d = -(a t.length) := by rw [hr d (by rw [refG_len]; omega), rd]; omega
      have noRow : ∀ (t : List (List Int)) (a : Nat → Int), (∀ r ∈ t, r ∈ rows) → (∀ i, i < t.length → 0 ≤ a i) → (∀ j, j < d → sv t a j = 0) → sv t a d < 0 → False := fun t a ht ha hz hd => by
        have h1 := sv_fea hf ht ha
        have h2 : dot d (sv t a) x0 = 0 := dot_zero fun i hi => hz i hi
        rw [h2] at h1
        have := Int.mul_neg_of_neg_of_pos hd hf.1
        omega
      rcases List.sublist_cons_iff.1 hts with hts1 | ⟨t1, rfl, hts1⟩
      · exact noRow t a (fun r hr => hts1.subset hr) (fun i hi => Int.le_of_lt (hp i (by omega))) hz (by omega)
      · have ha0 := hp 0 (by simp)
        have hs1 : ∀ j, sv t1 (fun i => a (i + 1)) j = sv (rs :: t1) a j - a 0 * V rs j := fun j => by rw [sv_cons]; omega
        have hrep : ∀ j, j < g.length → sv t1 (fun i => if i = t1.length then a 0 * wU g tb else a (i + 1)) j = (a 0 * wU g tb) * V g j := fun j hj => by
          rw [sv_congr (b := fun i => a (i + 1)) (fun i hi => by rw [if_neg (by omega)]), hs1, hz j (by omega), v1 j (by omega)]
          grind
        obtain ⟨t', a', k1, k2, k3, k4, k5⟩ := cara hcyc t1.length t1 (fun i => if i = t1.length then a 0 * wU g tb else a (i + 1)) (Nat.le_refl _) hts1 (fun i hi => by
            by_cases e : i = t1.length
            · simp only [e, if_true]; exact Int.mul_pos ha0 hU
            · simp only [e, if_false]; exact hp (i + 1) (by simp; omega)) (fun j hj => by simp only [if_true]; exact hrep j hj)
        simp only [if_true] at k5
        rw [sv_congr (t := t1) (b := fun i => a (i + 1)) (fun i hi => by rw [if_neg (by omega)]), hs1, hg, hd, v2] at k5
        have hr' := way_ratio k2 k4
        have hm := hmin t' k1 k2
        have hA := k3 t'.length (by omega)
        have hU' := wU_pos k2
        rw [hg] at hr'
        -- S U' <= S' U, S' A = s' U', s' a0 U <= (a0 S - n) A
        have e1 : wS g tb * wU g t' * (a' t'.length * a 0) ≤ wS g t' * wU g tb * (a' t'.length * a 0) := Int.mul_le_mul_of_nonneg_right hm (Int.le_of_lt (Int.mul_pos hA ha0))
        have e2 : wS g t' * wU g tb * (a' t'.length * a 0) = (wS g t' * a' t'.length) * (wU g tb * a 0) := by grind
        rw [e2, hr'] at e1
        have e3 : sv t' a' d * wU g t' * (wU g tb * a 0) = (sv t' a' d * (a 0 * wU g tb)) * wU g t' := by grind
        rw [e3] at e1
        have e4 := Int.mul_le_mul_of_nonneg_right k5 (Int.le_of_lt hU')
        have e5 : (-(a (rs :: t1).length) - a 0 * -wS g tb) * a' t'.length * wU g t' = wS g tb * wU g t' * (a' t'.length * a 0) - a (rs :: t1).length * (a' t'.length * wU g t') := by grind
        have e6 : 0 < a (rs :: t1).length * (a' t'.length * wU g t') := Int.mul_pos hn (Int.mul_pos hA hU')
        omega
  obtain ⟨x, w, hfx, hge⟩ := hex
  have hle := weak hg hfx (fun r hr => hsb.subset hr) hwb
  have heq : dot d (V g) x * wU g tb = wS g tb * w := by omega
  obtain ⟨_, hp, hr⟩ := way_nums hwb
  -- all rows of the way are met
  have htight : ∀ i, i < tb.length → dot d (V (tb.getD i [])) x = V (tb.getD i []) d * w := by
    have hsum : sumN tb.length (fun i => V (wayN g tb) i * (V (tb.getD i []) d * w - dot d (V (tb.getD i [])) x)) = 0 := by
      have e1 : sumN tb.length (fun i => V (wayN g tb) i * (V (tb.getD i []) d * w - dot d (V (tb.getD i [])) x)) = sumN tb.length (fun i => V (wayN g tb) i * V (tb.getD i []) d * w + -(V (wayN g tb) i * dot d (V (tb.getD i [])) x)) := sumN_congr fun i _ => by grind
      rw [e1, sumN_add, sumN_neg, sumN_mul_right, ← sv_eq, ← sv_dot, sv_goal hg hr]
      have : sv tb (V (wayN g tb)) d = wS g tb := by unfold wS; rw [hg]
      rw [this]
      have : V (wayN g tb) tb.length = wU g tb := rfl
      rw [this]
      have := Int.mul_comm (wU g tb) (dot d (V g) x)
      omega
    have hnn : ∀ i, i < tb.length → 0 ≤ V (wayN g tb) i * (V (tb.getD i []) d * w - dot d (V (tb.getD i [])) x) := fun i hi => by
      have := hfx.2 _ (hsb.subset (show tb.getD i [] ∈ tb by simp [hi]))
      exact Int.mul_nonneg (Int.le_of_lt (hp i (by omega))) (by omega)
    have hall : ∀ (n : Nat) (f : Nat → Int), (∀ i, i < n → 0 ≤ f i) → sumN n f = 0 → ∀ i, i < n → f i = 0 := by
      intro n
      induction n with
      | zero => intro f _ _ i hi; omega
      | succ n ih =>
        intro f h0 hs i hi
        have h1 := sumN_nonneg (n := n) (f := f) fun i hi => h0 i (by omega)
        have h2 := h0 n (by omega)
        have h3 : sumN n f + f n = 0 := hs
        by_cases e : i = n
        · rw [e]; omega
        · exact ih f (fun i hi => h0 i (by omega)) (by omega) i (by omega)
    intro i hi
    have := hall _ _ hnn hsum i hi
    have hpi := hp i (by omega)
    rcases Int.mul_eq_zero.1 this with h | h
    · omega
    · omega
  refine ⟨x, w, hfx, heq, fun v hv => ?_⟩
  have h1 : wU g tb * dot d (V g) v = 0 := by
    have := sv_goal (x := v) hg hr
    rw [sv_dot] at this
    have h2 : sumN tb.length (fun i => V (wayN g tb) i * dot d (V (tb.getD i [])) v) = 0 := sumN_zero fun i hi => by
      rw [hv _ (hsb.subset (show tb.getD i [] ∈ tb by simp [hi])) (htight i hi), Int.mul_zero]
    rw [h2] at this
    exact this.symm
  rcases Int.mul_eq_zero.1 h1 with h | h
  · omega
  · exact h

theorem strong {d : Nat} {rows tb : List (List Int)} {g : List Int} (hg : g.length = d) (hl : ∀ r ∈ rows, r.length = d + 1) {x0 : Nat → Int} {w0 : Int} (hf : Fea d rows x0 w0) (hsb : tb.Sublist rows) (hwb : wayB g tb = true)
    (hmin : ∀ t, t.Sublist rows → wayB g t = true → wS g tb * wU g t ≤ wS g t * wU g tb) :
    ∃ t y, t.Sublist (allR d rows) ∧ t.length = d ∧ ptT rows d t = some y ∧ 0 < V y d ∧ dot d (V g) (V y) * wU g tb = wS g tb * V y d := by
  obtain ⟨x, w, hfx, heq, hG⟩ := opt_at hg hf hsb hwb hmin
  obtain ⟨t, y, k1, k2, k3, k4, k5⟩ := basic hl hfx (G := V g) hG
  refine ⟨t, y, k1, k2, k3, k4, ?_⟩
  have hw := hfx.1
  have e : w * (dot d (V g) (V y) * wU g tb) = w * (wS g tb * V y d) := by
    have : w * (dot d (V g) (V y) * wU g tb) = (dot d (V g) (V y) * w) * wU g tb := by grind
    rw [this, k5]
    have : dot d (V g) x * V y d * wU g tb = (dot d (V g) x * wU g tb) * V y d := by grind
    rw [this, heq]; grind
  exact Int.eq_of_mul_eq_mul_left (by omega) e

end Go.Proofs.Ytnalejokjapofaa
