/- Parts of an even square: how many, pure. -/
import Derived.Test.YtmffbaclgbmnbaaBk2
namespace Go.Proofs.Ytmffbaclgbmnbaa

/-- A sum by rows. -/
theorem sumN_flat (r : Nat) (f : Nat → Int) : ∀ p, Lin.sumN (p * r) f = Lin.sumN p (fun a => Lin.sumN r (fun b => f (a * r + b)))
  | 0 => by simp [Lin.sumN]
  | p + 1 => by
    have h : ∀ k, Lin.sumN (p * r + k) f = Lin.sumN (p * r) f + Lin.sumN k (fun b => f (p * r + b)) := by
      intro k
      induction k with
      | zero => simp [Lin.sumN]
      | succ k ih =>
        rw [← Nat.add_assoc]
        simp only [Lin.sumN]
        rw [ih]
        omega
    rw [Nat.add_mul, Nat.one_mul, h r, sumN_flat r f p]
    rfl

/-- An order as a square of 0 and 1, told in one row. -/
def pmx (n : Nat) (σ : Nat → Nat) : Nat → Int := fun k => if σ (k / n) = k % n then 1 else 0

/-- The squares of which all of them are made: n = r + 1. -/
def bas (r : Nat) (q : Nat) : Nat → Int := fun k =>
  if q < r * r then
    (if k / (r + 1) = q / r ∧ k % (r + 1) = q % r then 1 else 0) - (if k / (r + 1) = q / r ∧ k % (r + 1) = r then 1 else 0) - (if k / (r + 1) = r ∧ k % (r + 1) = q % r then 1 else 0) + (if k / (r + 1) = r ∧ k % (r + 1) = r then 1 else 0)
  else (if k / (r + 1) < r ∧ k % (r + 1) = r then 1 else 0) + (if k / (r + 1) = r ∧ k % (r + 1) < r then 1 else 0) + (if k / (r + 1) = r ∧ k % (r + 1) = r then 1 - (r : Int) else 0)

def cofs (r : Nat) (σ : Nat → Nat) : Nat → Int := fun q => if q < r * r then (if σ (q / r) = q % r then 1 else 0) else 1

theorem sum_hit {r k : Nat} (z : Int) : Lin.sumN r (fun j => if k = j then z else 0) = if k < r then z else 0 := by
  by_cases h : k < r
  · rw [if_pos h]; exact sumN_if h z
  · rw [if_neg h]
    exact Lin.sumN_zero fun j hj => by rw [if_neg (by omega)]

theorem ins_count {r : Nat} {σ : Nat → Nat} (h : Ins (r + 1) σ) (j : Nat) (hj : j < r + 1) : Lin.sumN r (fun a => if σ a = j then (1 : Int) else 0) = if σ r = j then 0 else 1 := by
  obtain ⟨k, hk, e⟩ := ins_onto h hj
  have e1 : Lin.sumN r (fun a => if σ a = j then (1 : Int) else 0) = Lin.sumN r (fun a => if k = a then (1 : Int) else 0) := Lin.sumN_congr fun a ha => by
    by_cases ea : k = a
    · subst ea; rw [if_pos e, if_pos rfl]
    · rw [if_neg ea, if_neg (fun h2 => ea (h.inj k a hk (by omega) (e.trans h2.symm)))]
  rw [e1, sum_hit]
  by_cases hkr : k < r
  · rw [if_pos hkr, if_neg (fun h2 => by have := h.inj k r hk (by omega) (e.trans h2.symm); omega)]
  · have : k = r := by omega
    subst this
    rw [if_neg (by omega), if_pos e]

theorem made_of {r : Nat} {σ : Nat → Nat} (h : Ins (r + 1) σ) (k : Nat) (hk : k < (r + 1) * (r + 1)) : 1 * pmx (r + 1) σ k = Lin.comb (r * r + 1) (cofs r σ) (bas r) k := by
  have hi : k / (r + 1) < r + 1 := Nat.div_lt_of_lt_mul hk
  have hj : k % (r + 1) < r + 1 := Nat.mod_lt _ (by omega)
  unfold Lin.comb
  have e0 : Lin.sumN (r * r + 1) (fun q => cofs r σ q * bas r q k) = Lin.sumN (r * r) (fun q => cofs r σ q * bas r q k) + cofs r σ (r * r) * bas r (r * r) k := rfl
  rw [e0, sumN_flat]
  have c1 : cofs r σ (r * r) = 1 := by unfold cofs; rw [if_neg (by omega)]
  have c2 : bas r (r * r) k = (if k / (r + 1) < r ∧ k % (r + 1) = r then 1 else 0) + (if k / (r + 1) = r ∧ k % (r + 1) < r then 1 else 0) + (if k / (r + 1) = r ∧ k % (r + 1) = r then 1 - (r : Int) else 0) := by
    unfold bas; rw [if_neg (by omega)]
  have c3 : ∀ a b, a < r → b < r → cofs r σ (a * r + b) * bas r (a * r + b) k = (if σ a = b then 1 else 0) * ((if k / (r + 1) = a ∧ k % (r + 1) = b then 1 else 0) - (if k / (r + 1) = a ∧ k % (r + 1) = r then 1 else 0) - (if k / (r + 1) = r ∧ k % (r + 1) = b then 1 else 0) + (if k / (r + 1) = r ∧ k % (r + 1) = r then 1 else 0)) := by
    intro a b ha hb
    have q1 : a * r + b < r * r := by
      have : a * r + r ≤ r * r := by
        have := Nat.mul_le_mul_right r (show a + 1 ≤ r by omega)
        rw [Nat.add_mul, Nat.one_mul] at this
        exact this
      omega
    have q2 : (a * r + b) / r = a := by rw [Nat.mul_comm, Nat.mul_add_div (by omega), Nat.div_eq_of_lt hb]; omega
    have q3 : (a * r + b) % r = b := by rw [Nat.mul_comm, Nat.mul_add_mod, Nat.mod_eq_of_lt hb]
    unfold cofs bas
    rw [if_pos q1, if_pos q1, q2, q3]
  have c4 : Lin.sumN r (fun a => Lin.sumN r (fun b => cofs r σ (a * r + b) * bas r (a * r + b) k)) = Lin.sumN r (fun a => Lin.sumN r (fun b => (if σ a = b then 1 else 0) * ((if k / (r + 1) = a ∧ k % (r + 1) = b then 1 else 0) - (if k / (r + 1) = a ∧ k % (r + 1) = r then 1 else 0) - (if k / (r + 1) = r ∧ k % (r + 1) = b then 1 else 0) + (if k / (r + 1) = r ∧ k % (r + 1) = r then (1 : Int) else 0)))) :=
    Lin.sumN_congr fun a ha => Lin.sumN_congr fun b hb => c3 a b ha hb
  rw [c4, c1, c2]
  unfold pmx
  generalize k / (r + 1) = i at *
  generalize k % (r + 1) = j at *
  clear c1 c2 c3 c4 e0 hk
  by_cases hir : i < r
  · by_cases hjr : j < r
    · -- inside
      have e : Lin.sumN r (fun a => Lin.sumN r (fun b => (if σ a = b then 1 else 0) * ((if i = a ∧ j = b then 1 else 0) - (if i = a ∧ j = r then 1 else 0) - (if i = r ∧ j = b then 1 else 0) + (if i = r ∧ j = r then (1 : Int) else 0)))) = Lin.sumN r (fun a => if i = a then (if σ i = j then 1 else 0) else 0) := Lin.sumN_congr fun a ha => by
        have e2 : Lin.sumN r (fun b => (if σ a = b then 1 else 0) * ((if i = a ∧ j = b then 1 else 0) - (if i = a ∧ j = r then 1 else 0) - (if i = r ∧ j = b then 1 else 0) + (if i = r ∧ j = r then (1 : Int) else 0))) = Lin.sumN r (fun b => if j = b then (if i = a then (if σ i = j then 1 else 0) else 0) else 0) := Lin.sumN_congr fun b hb => by
          rw [if_neg (show ¬ (i = a ∧ j = r) by omega), if_neg (show ¬ (i = r ∧ j = b) by omega), if_neg (show ¬ (i = r ∧ j = r) by omega)]
          by_cases x : j = b
          · subst x
            by_cases y : i = a
            · subst y; simp
            · simp [y]
          · simp [x]
        rw [e2, sumN_if hjr]
      rw [e, sumN_if hir, if_neg (show ¬ (i < r ∧ j = r) by omega), if_neg (show ¬ (i = r ∧ j < r) by omega), if_neg (show ¬ (i = r ∧ j = r) by omega)]
      omega
    · -- the last column
      have hje : j = r := by omega
      subst hje
      have e : Lin.sumN j (fun a => Lin.sumN j (fun b => (if σ a = b then 1 else 0) * ((if i = a ∧ j = b then 1 else 0) - (if i = a ∧ j = j then 1 else 0) - (if i = j ∧ j = b then 1 else 0) + (if i = j ∧ j = j then (1 : Int) else 0)))) = Lin.sumN j (fun a => if i = a then - (if σ i < j then 1 else 0) else 0) := Lin.sumN_congr fun a ha => by
        have e2 : Lin.sumN j (fun b => (if σ a = b then 1 else 0) * ((if i = a ∧ j = b then 1 else 0) - (if i = a ∧ j = j then 1 else 0) - (if i = j ∧ j = b then 1 else 0) + (if i = j ∧ j = j then (1 : Int) else 0))) = Lin.sumN j (fun b => (if σ a = b then (1 : Int) else 0) * (if i = a then -1 else 0)) := Lin.sumN_congr fun b hb => by
          rw [if_neg (show ¬ (i = a ∧ j = b) by omega), if_neg (show ¬ (i = j ∧ j = b) by omega), if_neg (show ¬ (i = j ∧ j = j) by omega)]
          by_cases y : i = a
          · simp [y]
          · simp [y]
        rw [e2, Lin.sumN_mul_right, sum_hit]
        by_cases y : i = a
        · subst y; rw [if_pos rfl, if_pos rfl]; split <;> simp
        · simp [y]
      rw [e, sumN_if hir, if_pos (show i < j ∧ j = j by omega), if_neg (show ¬ (i = j ∧ j < j) by omega), if_neg (show ¬ (i = j ∧ j = j) by omega)]
      have hs := h.lt i (by omega)
      by_cases x : σ i = j
      · rw [if_pos x, if_neg (show ¬ σ i < j by omega)]; omega
      · rw [if_neg x, if_pos (show σ i < j by omega)]; omega
  · have hie : i = r := by omega
    subst hie
    by_cases hjr : j < i
    · -- the last row
      have e : Lin.sumN i (fun a => Lin.sumN i (fun b => (if σ a = b then 1 else 0) * ((if i = a ∧ j = b then 1 else 0) - (if i = a ∧ j = i then 1 else 0) - (if i = i ∧ j = b then 1 else 0) + (if i = i ∧ j = i then (1 : Int) else 0)))) = Lin.sumN i (fun a => - (if σ a = j then (1 : Int) else 0)) := Lin.sumN_congr fun a ha => by
        have e2 : Lin.sumN i (fun b => (if σ a = b then 1 else 0) * ((if i = a ∧ j = b then 1 else 0) - (if i = a ∧ j = i then 1 else 0) - (if i = i ∧ j = b then 1 else 0) + (if i = i ∧ j = i then (1 : Int) else 0))) = Lin.sumN i (fun b => if j = b then - (if σ a = j then (1 : Int) else 0) else 0) := Lin.sumN_congr fun b hb => by
          rw [if_neg (show ¬ (i = a ∧ j = b) by omega), if_neg (show ¬ (i = a ∧ j = i) by omega), if_neg (show ¬ (i = i ∧ j = i) by omega)]
          by_cases x : j = b
          · subst x; by_cases y : σ a = j <;> simp [y]
          · simp [x]
        rw [e2, sumN_if hjr]
      rw [e, Lin.sumN_neg, ins_count h j (by omega), if_neg (show ¬ (i < i ∧ j = i) by omega), if_pos (show i = i ∧ j < i by omega), if_neg (show ¬ (i = i ∧ j = i) by omega)]
      split <;> omega
    · -- the corner
      have hje : j = i := by omega
      subst hje
      have e : Lin.sumN j (fun a => Lin.sumN j (fun b => (if σ a = b then 1 else 0) * ((if j = a ∧ j = b then 1 else 0) - (if j = a ∧ j = j then 1 else 0) - (if j = j ∧ j = b then 1 else 0) + (if j = j ∧ j = j then (1 : Int) else 0)))) = Lin.sumN j (fun a => 1 + - (if σ a = j then (1 : Int) else 0)) := Lin.sumN_congr fun a ha => by
        have e2 : Lin.sumN j (fun b => (if σ a = b then 1 else 0) * ((if j = a ∧ j = b then 1 else 0) - (if j = a ∧ j = j then 1 else 0) - (if j = j ∧ j = b then 1 else 0) + (if j = j ∧ j = j then (1 : Int) else 0))) = Lin.sumN j (fun b => if σ a = b then (1 : Int) else 0) := Lin.sumN_congr fun b hb => by
          rw [if_neg (show ¬ (j = a ∧ j = b) by omega), if_neg (show ¬ (j = a ∧ j = j) by omega), if_neg (show ¬ (j = j ∧ j = b) by omega), if_pos (show j = j ∧ j = j by omega)]
          by_cases y : σ a = b <;> simp [y]
        rw [e2, sum_hit]
        have hs := h.lt a (by omega)
        by_cases x : σ a = j
        · rw [if_neg (by omega), if_pos x]; omega
        · rw [if_pos (by omega), if_neg x]; omega
      have e3 : Lin.sumN j (fun _ => (1 : Int)) = j := by
        clear e
        have : ∀ q : Nat, Lin.sumN q (fun _ => (1 : Int)) = q := by
          intro q
          induction q with
          | zero => rfl
          | succ q ih => simp only [Lin.sumN]; rw [ih]; omega
        exact this j
      rw [e, Lin.sumN_add, Lin.sumN_neg, e3, ins_count h j (by omega), if_neg (show ¬ (j < j ∧ j = j) by omega), if_neg (show ¬ (j = j ∧ j < j) by omega), if_pos (show j = j ∧ j = j by omega)]
      split <;> omega

/-- No more than this. -/
theorem parts_few {n : Nat} {done : List (List Int)} {s : PSt} (hn : 1 ≤ n) (h : PF n done s) : s.ords.length ≤ (n - 1) * (n - 1) + 1 := by
  obtain ⟨r, rfl⟩ : ∃ r, n = r + 1 := ⟨n - 1, by omega⟩
  refine Nat.not_lt.1 fun hlt => ?_
  simp only [Nat.add_sub_cancel] at hlt
  have hin : ∀ l, l < s.ords.length → Ins (r + 1) (oF (s.ords.getD l [])) := fun l hl => by
    have := h.ins (s.ords.getD l []) (by simp [hl])
    exact ord_ins this.2 this.1
  obtain ⟨κ, k1, k2⟩ := h.tri
  obtain ⟨d, p, hp, hd, hz⟩ := Lin.steinitz (c := (r + 1) * (r + 1)) (A := fun l => pmx (r + 1) (oF (s.ords.getD l []))) (B := bas r) (e := fun _ => 1) (f := fun l => cofs r (oF (s.ords.getD l []))) hlt (fun _ _ => by decide) (fun l hl k hk => made_of (hin l hl) k hk)
  have key : ∀ l, l < s.ords.length → d l = 0 := by
    intro l
    induction l using Nat.strongRecOn with
    | _ l ih =>
      intro hl
      have hk := (k1 l hl).1
      have hP := (hin l hl).lt (κ l) hk
      have hkk : κ l * (r + 1) + oF (s.ords.getD l []) (κ l) < (r + 1) * (r + 1) := by
        have : κ l * (r + 1) + (r + 1) ≤ (r + 1) * (r + 1) := by
          have := Nat.mul_le_mul_right (r + 1) (show κ l + 1 ≤ r + 1 by omega)
          rw [Nat.add_mul, Nat.one_mul] at this
          exact this
        omega
      have q2 : (κ l * (r + 1) + oF (s.ords.getD l []) (κ l)) / (r + 1) = κ l := by rw [Nat.mul_comm, Nat.mul_add_div (by omega), Nat.div_eq_of_lt hP]; omega
      have q3 : (κ l * (r + 1) + oF (s.ords.getD l []) (κ l)) % (r + 1) = oF (s.ords.getD l []) (κ l) := by rw [Nat.mul_comm, Nat.mul_add_mod, Nat.mod_eq_of_lt hP]
      have h0 := hz _ hkk
      unfold Lin.comb at h0
      rw [Lin.sumN_one hl (fun q hq hne => ?_)] at h0
      · unfold pmx at h0
        dsimp only at h0
        rw [q2, q3, if_pos rfl] at h0
        omega
      · by_cases hql : q < l
        · rw [ih q hql hq, Int.zero_mul]
        · unfold pmx
          dsimp only
          rw [q2, q3, if_neg (k2 l q (by omega) hq), Int.mul_zero]
  exact hd (key p hp)

end Go.Proofs.Ytmffbaclgbmnbaa
