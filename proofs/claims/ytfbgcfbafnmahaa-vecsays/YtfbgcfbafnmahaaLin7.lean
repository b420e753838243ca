/- Plain facts: lists divided by what they have in common, turned upright. -/
namespace Go.Proofs.Ytfbgcfbafnmahaa.Lin

def gcf (g : Nat) (l : List Int) : Nat := l.foldl (fun g v => Nat.gcd g v.natAbs) g
def gc (l : List Int) : Nat := gcf 0 l

theorem gcf_scale (a : Int) (g : Nat) (l : List Int) : gcf (a.natAbs * g) (l.map (a * ·)) = a.natAbs * gcf g l := by
  induction l generalizing g with
  | nil => rfl
  | cons v l ih =>
    simp only [gcf, List.map_cons, List.foldl_cons] at ih ⊢
    rw [Int.natAbs_mul, Nat.gcd_mul_left, ih]

theorem gc_scale (a : Int) (l : List Int) : gc (l.map (a * ·)) = a.natAbs * gc l := by
  have := gcf_scale a 0 l
  simpa [gc] using this

theorem gcf_dvd (g : Nat) (l : List Int) : gcf g l ∣ g ∧ ∀ v ∈ l, (gcf g l : Int) ∣ v := by
  induction l generalizing g with
  | nil => exact ⟨Nat.dvd_refl _, fun _ h => absurd h (by simp)⟩
  | cons v l ih =>
    have h := ih (Nat.gcd g v.natAbs)
    have e : gcf g (v :: l) = gcf (Nat.gcd g v.natAbs) l := rfl
    rw [e]
    refine ⟨Nat.dvd_trans h.1 (Nat.gcd_dvd_left _ _), fun u hu => ?_⟩
    rcases List.mem_cons.1 hu with rfl | hu
    · have := Nat.dvd_trans h.1 (Nat.gcd_dvd_right g u.natAbs)
      exact Int.ofNat_dvd_left.2 this
    · exact h.2 u hu

theorem gc_dvd {l : List Int} {v : Int} (h : v ∈ l) : (gc l : Int) ∣ v := (gcf_dvd 0 l).2 v h

def low (l : List Int) : List Int := l.map (· / (gc l : Int))

/-- The first number that is not 0 is above 0, or all signs are turned. -/
def upr (l : List Int) : List Int := if (l.find? (fun v => v != 0)).getD 0 < 0 then l.map (fun v => -v) else l

theorem find_neg (l : List Int) : ((l.map fun v => -v).find? (fun v => v != 0)).getD 0 = - (l.find? (fun v => v != 0)).getD 0 := by
  induction l with
  | nil => rfl
  | cons v l ih =>
    by_cases h : v = 0
    · subst h; simpa using ih
    · have h1 : (v != 0) = true := by simp [h]
      have h2 : (-v != 0) = true := by simp [h]
      simp [h1, h2]

theorem find_zero {l : List Int} (h : (l.find? (fun v => v != 0)).getD 0 = 0) : ∀ v ∈ l, v = 0 := by
  induction l with
  | nil => intro _ h; simp at h
  | cons v l ih =>
    intro u hu
    by_cases hv : v = 0
    · subst hv
      rcases List.mem_cons.1 hu with rfl | hu
      · rfl
      · exact ih (by simpa using h) u hu
    · have h1 : (v != 0) = true := by simp [hv]
      simp [h1] at h
      exact absurd h hv

theorem upr_neg (l : List Int) : upr (l.map fun v => -v) = upr l := by
  unfold upr
  rw [find_neg]
  have hnn : (l.map fun v => -v).map (fun v => -v) = l := by simp [Function.comp_def]
  by_cases h0 : (l.find? (fun v => v != 0)).getD 0 = 0
  · rw [h0]
    have := find_zero h0
    simp only [Int.neg_zero, Int.lt_irrefl, if_false]
    have e : ∀ l : List Int, (∀ v ∈ l, v = 0) → l.map (fun v => -v) = l := by
      intro l hl
      induction l with
      | nil => rfl
      | cons v l ih =>
        have h1 : v = 0 := hl v (by simp)
        subst h1
        simp only [List.map_cons, Int.neg_zero]
        rw [ih fun u hu => hl u (by simp [hu])]
    exact e l this
  · by_cases h1 : (l.find? (fun v => v != 0)).getD 0 < 0
    · rw [if_neg (by omega), if_pos h1]
    · rw [if_pos (by omega), if_neg h1, hnn]

theorem find_at {l : List Int} {t : Nat} (ht : t < l.length) (hz : ∀ i, i < t → l.getD i 0 = 0) (hne : l.getD t 0 ≠ 0) : (l.find? (fun v => v != 0)).getD 0 = l.getD t 0 := by
  induction l generalizing t with
  | nil => simp at ht
  | cons v l ih =>
    cases t with
    | zero =>
      simp at hne
      have : (v != 0) = true := by simp [hne]
      simp [this]
    | succ t =>
      have h0 : v = 0 := by have := hz 0 (by omega); simpa using this
      subst h0
      have := ih (t := t) (by simpa using ht) (fun i hi => by have := hz (i + 1) (by omega); simpa using this) (by simpa using hne)
      simpa [List.find?_cons] using this

theorem find_none {l : List Int} (hz : ∀ i, i < l.length → l.getD i 0 = 0) : (l.find? (fun v => v != 0)).getD 0 = 0 := by
  induction l with
  | nil => rfl
  | cons v l ih =>
    have h0 : v = 0 := by have := hz 0 (by simp); simpa using this
    subst h0
    have := ih (fun i hi => by have := hz (i + 1) (by simpa using hi); simpa using this)
    simpa [List.find?_cons] using this

theorem norm_eq {x y : List Int} {a b : Int} (ha : a ≠ 0) (hb : b ≠ 0) (h : x.map (a * ·) = y.map (b * ·)) : upr (low x) = upr (low y) := by
  have hg : a.natAbs * gc x = b.natAbs * gc y := by rw [← gc_scale, ← gc_scale, h]
  have hl : x.length = y.length := by have := congrArg List.length h; simpa using this
  have hi : ∀ i (h1 : i < x.length) (h2 : i < y.length), a * x[i] = b * y[i] := by
    intro i h1 h2
    have := congrArg (fun l => l[i]?) h
    simpa [h1, h2] using this
  by_cases h0 : gc x = 0
  · have h1 : gc y = 0 := by
      rw [h0, Nat.mul_zero] at hg
      rcases Nat.mul_eq_zero.1 hg.symm with h | h
      · omega
      · exact h
    have : low x = low y := by
      unfold low; rw [h0, h1]
      refine List.ext_getElem (by simpa using hl) fun i _ _ => by simp
    rw [this]
  · have h1 : gc y ≠ 0 := by
      intro h1
      rw [h1, Nat.mul_zero] at hg
      rcases Nat.mul_eq_zero.1 hg with h | h
      · omega
      · exact h0 h
    -- x = gx x', y = gy y'
    have q : ∀ i (p1 : i < x.length) (p2 : i < y.length), a * (gc x : Int) * (x[i] / (gc x : Int)) = b * (gc y : Int) * (y[i] / (gc y : Int)) := by
      intro i p1 p2
      have e1 : (gc x : Int) * (x[i] / (gc x : Int)) = x[i] := Int.mul_ediv_cancel' (gc_dvd (List.getElem_mem p1))
      have e2 : (gc y : Int) * (y[i] / (gc y : Int)) = y[i] := Int.mul_ediv_cancel' (gc_dvd (List.getElem_mem p2))
      rw [Int.mul_assoc, e1, Int.mul_assoc, e2]; exact hi i p1 p2
    have ht : a * (gc x : Int) = b * (gc y : Int) ∨ a * (gc x : Int) = - (b * (gc y : Int)) := by
      have : (a * (gc x : Int)).natAbs = (b * (gc y : Int)).natAbs := by
        rw [Int.natAbs_mul, Int.natAbs_mul]; simpa using hg
      omega
    have hne : a * (gc x : Int) ≠ 0 := Int.mul_ne_zero ha (by omega)
    rcases ht with ht | ht
    · have : low x = low y := by
        refine List.ext_getElem (by simpa [low] using hl) fun i p1 p2 => ?_
        have p1' : i < x.length := by simpa [low] using p1
        have p2' : i < y.length := by simpa [low] using p2
        have := q i p1' p2'
        rw [← ht] at this
        simpa [low] using Int.eq_of_mul_eq_mul_left hne this
      rw [this]
    · have : low x = (low y).map (fun v => -v) := by
        refine List.ext_getElem (by simpa [low] using hl) fun i p1 p2 => ?_
        have p1' : i < x.length := by simpa [low] using p1
        have p2' : i < y.length := by simpa [low] using p2
        have := q i p1' p2'
        have e : b * (gc y : Int) * (y[i] / (gc y : Int)) = a * (gc x : Int) * (- (y[i] / (gc y : Int))) := by rw [ht]; grind
        rw [e] at this
        simpa [low] using Int.eq_of_mul_eq_mul_left hne this
      rw [this, upr_neg]

end Go.Proofs.Ytfbgcfbafnmahaa.Lin
