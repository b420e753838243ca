/- Orders of a few things: what is above what, as bits; Moebius's numbers. -/
import Derived.Test.YtcmemhdlendlkaaDoorData
namespace Go.Proofs.YtcmemhdlendlkaaDoor
open Go.RowKit

/-- The sum over the numbers below n. -/
def sN : Nat → (Nat → Int) → Int
  | 0, _ => 0
  | n + 1, f => sN n f + f n

theorem sN_congr : ∀ (n : Nat) {f g : Nat → Int}, (∀ i, i < n → f i = g i) → sN n f = sN n g
  | 0, _, _, _ => rfl
  | n + 1, f, g, h => by
    simp only [sN]
    rw [sN_congr n (fun i hi => h i (by omega)), h n (by omega)]

theorem sN_zero : ∀ (n : Nat) {f : Nat → Int}, (∀ i, i < n → f i = 0) → sN n f = 0
  | 0, _, _ => rfl
  | n + 1, f, h => by
    simp only [sN]
    rw [sN_zero n (fun i hi => h i (by omega)), h n (by omega)]
    rfl

theorem sN_add : ∀ (n : Nat) (f g : Nat → Int), sN n (fun i => f i + g i) = sN n f + sN n g
  | 0, _, _ => rfl
  | n + 1, f, g => by
    simp only [sN]
    rw [sN_add n f g]
    omega

theorem sN_mul (c : Int) : ∀ (n : Nat) (f : Nat → Int), sN n (fun i => c * f i) = c * sN n f
  | 0, _ => by simp [sN]
  | n + 1, f => by
    simp only [sN]
    rw [sN_mul c n f, Int.mul_add]

theorem sN_mulr (c : Int) (n : Nat) (f : Nat → Int) : sN n (fun i => f i * c) = sN n f * c := by
  rw [Int.mul_comm, ← sN_mul]
  exact sN_congr n fun i _ => Int.mul_comm _ _

theorem sN_swap : ∀ (n m : Nat) (f : Nat → Nat → Int), sN n (fun i => sN m (fun j => f i j)) = sN m (fun j => sN n (fun i => f i j))
  | 0, m, f => by
    simp only [sN]
    exact (sN_zero m fun _ _ => rfl).symm
  | n + 1, m, f => by
    simp only [sN]
    rw [sN_swap n m f, ← sN_add]

theorem sN_one : ∀ (n : Nat) {k : Nat} (x : Int), k < n → sN n (fun j => if j = k then x else 0) = x
  | 0, k, x, h => by omega
  | n + 1, k, x, h => by
    simp only [sN]
    by_cases e : n = k
    · subst e
      rw [sN_zero n (fun i hi => if_neg (by omega)), if_pos rfl]
      omega
    · rw [sN_one n x (by omega), if_neg e]
      omega

theorem sN_bd : ∀ (n : Nat) (b : Int) {f : Nat → Int}, (∀ i, i < n → -b ≤ f i ∧ f i ≤ b) → -(n * b) ≤ sN n f ∧ sN n f ≤ n * b
  | 0, b, f, _ => by simp [sN]
  | n + 1, b, f, h => by
    have h1 := sN_bd n b (f := f) (fun i hi => h i (by omega))
    have h2 := h n (by omega)
    simp only [sN]
    have e : ((n + 1 : Nat) : Int) * b = (n : Int) * b + b := by
      rw [Int.natCast_add, Int.add_mul]
      simp
    rw [e]
    omega

/-- How many numbers below n. -/
def cN : Nat → (Nat → Bool) → Nat
  | 0, _ => 0
  | n + 1, p => cN n p + (if p n then 1 else 0)

theorem cN_le : ∀ (n : Nat) (p : Nat → Bool), cN n p ≤ n
  | 0, _ => Nat.le_refl _
  | n + 1, p => by
    have := cN_le n p
    simp only [cN]
    split <;> omega

theorem cN_lt : ∀ (n : Nat) {p q : Nat → Bool} {x : Nat}, (∀ i, i < n → p i = true → q i = true) → x < n → p x = false → q x = true → cN n p < cN n q
  | 0, p, q, x, _, h, _, _ => by omega
  | n + 1, p, q, x, h, hx, h1, h2 => by
    have hm : ∀ m, m ≤ n → cN m p ≤ cN m q := by
      intro m
      induction m with
      | zero => intro _; exact Nat.le_refl _
      | succ m ih =>
        intro hm
        have h0 := ih (by omega)
        have h3 := h m (by omega)
        simp only [cN]
        split
        · rename_i hp
          rw [if_pos (h3 hp)]
          omega
        · omega
    simp only [cN]
    by_cases e : x = n
    · subst e
      have h0 := hm x (Nat.le_refl _)
      rw [h1, h2]
      simp
      omega
    · have h0 := cN_lt n (fun i hi => h i (by omega)) (show x < n by omega) h1 h2
      have h3 := h n (by omega)
      split
      · rename_i hp
        rw [if_pos (h3 hp)]
        omega
      · omega

theorem cN_lt_n {n : Nat} {p : Nat → Bool} {x : Nat} (hx : x < n) (h : p x = false) : cN n p < n := by
  have h1 := cN_lt n (p := p) (q := fun _ => true) (x := x) (fun _ _ _ => rfl) hx h rfl
  have h2 := cN_le n (fun _ => true)
  omega

/-- What is above what. -/
structure PoO (n : Nat) (f : Nat → Nat) : Prop where
  lt : ∀ i, i < n → f i < 2 ^ n
  irr : ∀ i, i < n → (f i).testBit i = false
  tr : ∀ i j k, i < n → j < n → k < n → (f i).testBit j = true → (f j).testBit k = true → (f i).testBit k = true

/-- How many are above a thing. -/
def rkF (n : Nat) (f : Nat → Nat) (k : Nat) : Nat := cN n fun m => (f k).testBit m

theorem PoO.rk_lt {n : Nat} {f : Nat → Nat} (h : PoO n f) {k : Nat} (hk : k < n) : rkF n f k < n := cN_lt_n hk (h.irr k hk)

theorem PoO.rk_up {n : Nat} {f : Nat → Nat} (h : PoO n f) {j k : Nat} (hj : j < n) (hk : k < n) (hb : (f j).testBit k = true) : rkF n f k < rkF n f j :=
  cN_lt n (fun i hi hb2 => h.tr j k i hj hk hi hb hb2) hk (h.irr k hk) hb

/-- Moebius's number, by so many steps. -/
def mu (n : Nat) (f : Nat → Nat) (i : Nat) : Nat → Nat → Int
  | 0, _ => 0
  | t + 1, k => if k = i then 1 else if (f i).testBit k then -(sN n fun j => if (f j).testBit k then mu n f i t j else 0) else 0

theorem mu_fuel {n : Nat} {f : Nat → Nat} (h : PoO n f) (i : Nat) : ∀ (t s k : Nat), k < n → n - rkF n f k ≤ t → n - rkF n f k ≤ s → mu n f i t k = mu n f i s k
  | 0, s, k, hk, h1, _ => by
    have := h.rk_lt hk
    omega
  | t + 1, 0, k, hk, _, h2 => by
    have := h.rk_lt hk
    omega
  | t + 1, s + 1, k, hk, h1, h2 => by
    simp only [mu]
    rw [sN_congr n (g := fun j => if (f j).testBit k then mu n f i s j else 0) fun j hj => ?_]
    by_cases hb : (f j).testBit k = true
    · rw [if_pos hb, if_pos hb]
      have := h.rk_up hj hk hb
      exact mu_fuel h i t s j hj (by omega) (by omega)
    · rw [if_neg hb, if_neg hb]

theorem mu_bd {n : Nat} {f : Nat → Nat} (hn : n ≤ 6) (i : Nat) : ∀ (t k : Nat), -((6 ^ t : Nat) : Int) ≤ mu n f i t k ∧ mu n f i t k ≤ ((6 ^ t : Nat) : Int)
  | 0, k => by simp [mu]
  | t + 1, k => by
    have h0 := sN_bd n ((6 ^ t : Nat) : Int) (f := fun j => if (f j).testBit k then mu n f i t j else 0) fun j _ => by
      by_cases hb : (f j).testBit k = true
      · simp only [hb, if_true]
        exact mu_bd hn i t j
      · simp only [hb]
        have : 0 ≤ ((6 ^ t : Nat) : Int) := Int.natCast_nonneg _
        exact ⟨by simpa using this, by simpa using this⟩
    have hp : 1 ≤ 6 ^ t := Nat.one_le_pow _ _ (by omega)
    have e : 6 ^ (t + 1) = 6 * 6 ^ t := by rw [Nat.pow_succ, Nat.mul_comm]
    have h1 : (n : Int) * ((6 ^ t : Nat) : Int) ≤ 6 * ((6 ^ t : Nat) : Int) := Int.mul_le_mul_of_nonneg_right (by omega) (Int.natCast_nonneg _)
    simp only [mu]
    rw [e]
    generalize 6 ^ t = q at *
    split
    · omega
    · split
      · omega
      · omega

/-- Moebius's number of two things. -/
def moF (n : Nat) (f : Nat → Nat) (i k : Nat) : Int := mu n f i n k

theorem moF_bd {n : Nat} {f : Nat → Nat} (hn : n ≤ 6) (i k : Nat) : -46656 ≤ moF n f i k ∧ moF n f i k ≤ 46656 := by
  have h := mu_bd (f := f) hn i n k
  have h1 : 6 ^ n ≤ 6 ^ 6 := Nat.pow_le_pow_right (by omega) hn
  have h2 : (6 : Nat) ^ 6 = 46656 := by decide
  unfold moF
  rw [h2] at h1
  generalize 6 ^ n = q at *
  omega

theorem mu_mo {n : Nat} {f : Nat → Nat} (h : PoO n f) {i t k : Nat} (hk : k < n) (ht : n - rkF n f k ≤ t) : mu n f i t k = moF n f i k := mu_fuel h i t n k hk ht (by omega)

theorem moF_eq {n : Nat} {f : Nat → Nat} (h : PoO n f) {i k : Nat} (hk : k < n) : moF n f i k = if k = i then 1 else if (f i).testBit k then -(sN n fun j => if (f j).testBit k then moF n f i j else 0) else 0 := by
  rw [← mu_mo h (t := n + 1) hk (by omega)]
  rfl

theorem moF_self {n : Nat} {f : Nat → Nat} (h : PoO n f) {i : Nat} (hi : i < n) : moF n f i i = 1 := by rw [moF_eq h hi, if_pos rfl]

theorem moF_not {n : Nat} {f : Nat → Nat} (h : PoO n f) {i k : Nat} (hk : k < n) (hne : i ≠ k) (hb : (f i).testBit k = false) : moF n f i k = 0 := by
  rw [moF_eq h hk, if_neg (fun e => hne e.symm), hb]
  rfl

/-- At or above. -/
def zeF (f : Nat → Nat) (i k : Nat) : Int := if k = i then 1 else if (f i).testBit k then 1 else 0

/-- Moebius's numbers and what is at or above: each the other's inverse. -/
theorem mo_ze {n : Nat} {f : Nat → Nat} (h : PoO n f) {i k : Nat} (hi : i < n) (hk : k < n) : sN n (fun j => moF n f i j * zeF f j k) = if k = i then 1 else 0 := by
  have e1 : sN n (fun j => moF n f i j * zeF f j k) = sN n (fun j => (if j = k then moF n f i k else 0) + (if (f j).testBit k then moF n f i j else 0)) := sN_congr n fun j hj => by
    unfold zeF
    by_cases e : k = j
    · subst e
      rw [if_pos rfl, if_pos rfl, h.irr k hk]
      simp
    · have e' : ¬ j = k := fun e2 => e e2.symm
      by_cases hb : (f j).testBit k = true
      · simp [hb, e, e']
      · simp [hb, e, e']
  rw [e1, sN_add, sN_one n _ hk]
  by_cases e : k = i
  · subst e
    rw [if_pos rfl, moF_self h hk, sN_zero n fun j hj => ?_]
    · omega
    · by_cases hb : (f j).testBit k = true
      · rw [if_pos hb]
        have hne : k ≠ j := fun e => by
          subst e
          rw [h.irr k hk] at hb
          cases hb
        refine moF_not h hj hne ?_
        cases hc : (f k).testBit j
        · rfl
        · have := h.tr k j k hk hj hk hc hb
          rw [h.irr k hk] at this
          cases this
      · rw [if_neg hb]
  · rw [if_neg e, moF_eq h hk, if_neg e]
    cases hb : (f i).testBit k
    · simp only [Bool.false_eq_true, if_false]
      rw [sN_zero n fun j hj => ?_]
      · omega
      · by_cases hc : (f j).testBit k = true
        · rw [if_pos hc]
          have hne : i ≠ j := fun e2 => by
            subst e2
            rw [hb] at hc
            cases hc
          refine moF_not h hj hne ?_
          cases hd : (f i).testBit j
          · rfl
          · have := h.tr i j k hi hj hk hd hc
            rw [hb] at this
            cases this
        · rw [if_neg hc]
    · simp only [if_true]
      omega

/-- What is nothing with all that is at or above is nothing. -/
theorem ze_null {n : Nat} {f : Nat → Nat} (h : PoO n f) {X : Nat → Int} (hX : ∀ k, k < n → sN n (fun j => X j * zeF f j k) = 0) : ∀ (t k : Nat), k < n → n - rkF n f k ≤ t → X k = 0
  | 0, k, hk, ht => by
    have := h.rk_lt hk
    omega
  | t + 1, k, hk, ht => by
    have h0 := hX k hk
    have e1 : sN n (fun j => X j * zeF f j k) = sN n (fun j => if j = k then X k else 0) := sN_congr n fun j hj => by
      unfold zeF
      by_cases e : k = j
      · subst e
        rw [if_pos rfl, if_pos rfl]
        omega
      · have e' : ¬ j = k := fun e2 => e e2.symm
        by_cases hb : (f j).testBit k = true
        · have := h.rk_up hj hk hb
          rw [ze_null h hX t j hj (by omega)]
          simp [e']
        · simp [hb, e, e']
    rw [e1, sN_one n _ hk] at h0
    exact h0

theorem ze_mo {n : Nat} {f : Nat → Nat} (h : PoO n f) {i k : Nat} (hi : i < n) (hk : k < n) : sN n (fun j => zeF f i j * moF n f j k) = if k = i then 1 else 0 := by
  have h0 : ∀ l, l < n → sN n (fun k => (sN n (fun j => zeF f i j * moF n f j k) - if k = i then 1 else 0) * zeF f k l) = 0 := fun l hl => by
    have e1 : sN n (fun k => (sN n (fun j => zeF f i j * moF n f j k) - if k = i then 1 else 0) * zeF f k l) = sN n (fun k => sN n (fun j => zeF f i j * (moF n f j k * zeF f k l)) + (if k = i then -(zeF f i l) else 0)) := sN_congr n fun k _ => by
      rw [Int.sub_mul, ← sN_mulr]
      rw [sN_congr n (fun j _ => Int.mul_assoc (zeF f i j) (moF n f j k) (zeF f k l))]
      by_cases e : k = i
      · subst e
        rw [if_pos rfl, if_pos rfl]
        omega
      · rw [if_neg e, if_neg e]
        omega
    rw [e1, sN_add, sN_swap, sN_one n _ hi]
    have e2 : sN n (fun j => sN n (fun k => zeF f i j * (moF n f j k * zeF f k l))) = sN n (fun j => if j = l then zeF f i l else 0) := sN_congr n fun j hj => by
      rw [sN_mul, mo_ze h hj hl]
      by_cases e : l = j
      · subst e
        rw [if_pos rfl, if_pos rfl]
        omega
      · rw [if_neg e, if_neg (fun e2 => e e2.symm)]
        omega
    rw [e2, sN_one n _ hl]
    omega
  have h1 := ze_null h (X := fun k => sN n (fun j => zeF f i j * moF n f j k) - if k = i then 1 else 0) h0 n k hk (by omega)
  omega

/-- The law's two sums. -/
def btw (f : Nat → Nat) (i k j : Nat) : Bool := (j == i || (f i).testBit j) && (j == k || (f j).testBit k)

theorem btw_a {n : Nat} {f : Nat → Nat} (h : PoO n f) {i k : Nat} (hi : i < n) (hk : k < n) (hb : (f i).testBit k = true) : sN n (fun j => if btw f i k j then moF n f i j else 0) = 0 := by
  have hne : ¬ k = i := fun e => by
    subst e
    rw [h.irr k hk] at hb
    cases hb
  have h1 := mo_ze h hi hk
  rw [if_neg hne] at h1
  refine Eq.trans (sN_congr n fun j hj => ?_) h1
  unfold btw zeF
  by_cases e : i = j
  · subst e
    simp [hne, hb]
  · cases hc : (f i).testBit j
    · rw [moF_not h hj e hc]
      simp
    · by_cases e2 : k = j
      · subst e2
        simp
      · have e3 : ¬ j = k := fun e3 => e2 e3.symm
        cases hd : (f j).testBit k <;> simp [e2, e3]

theorem btw_b {n : Nat} {f : Nat → Nat} (h : PoO n f) {i k : Nat} (hi : i < n) (hk : k < n) (hb : (f i).testBit k = true) : sN n (fun j => if btw f i k j then moF n f j k else 0) = 0 := by
  have hne : ¬ k = i := fun e => by
    subst e
    rw [h.irr k hk] at hb
    cases hb
  have h1 := ze_mo h hi hk
  rw [if_neg hne] at h1
  refine Eq.trans (sN_congr n fun j hj => ?_) h1
  unfold btw zeF
  by_cases e : j = k
  · subst e
    simp [hne, hb]
  · cases hc : (f j).testBit k
    · rw [moF_not h hk e hc]
      simp [e]
    · by_cases e2 : j = i
      · subst e2
        simp
      · cases hd : (f i).testBit j <;> simp [e2]

theorem btw_bd {n : Nat} {f : Nat → Nat} (hn : n ≤ 6) (p : Nat → Bool) (a b : Nat → Nat) (J : Nat) (hJ : J ≤ n) : -1000000 ≤ sN J (fun j => if p j then moF n f (a j) (b j) else 0) ∧ sN J (fun j => if p j then moF n f (a j) (b j) else 0) ≤ 1000000 := by
  have h0 := sN_bd J 46656 (f := fun j => if p j then moF n f (a j) (b j) else 0) fun j _ => by
    cases hp : p j
    · simp
    · simp only [if_true]
      exact moF_bd hn _ _
  have h1 : (J : Int) * 46656 ≤ 6 * 46656 := Int.mul_le_mul_of_nonneg_right (by omega) (by omega)
  omega

/-- The things set above a thing by pairs. -/
def prF (es : List (Nat × Nat)) (i : Nat) : Nat := es.foldl (fun s e => if e.1 = i then s ||| 2 ^ e.2 else s) 0

theorem prF_nil (i : Nat) : prF [] i = 0 := rfl

theorem prF_snoc (es : List (Nat × Nat)) (e : Nat × Nat) (i : Nat) : prF (es ++ [e]) i = if e.1 = i then prF es i ||| 2 ^ e.2 else prF es i := by
  simp [prF, List.foldl_append]

/-- By way of a thing. -/
def wst (m : Nat) (f : Nat → Nat) (i : Nat) : Nat := if (f i).testBit m then f i ||| f m else f i

def war : Nat → (Nat → Nat) → (Nat → Nat)
  | 0, f => f
  | m + 1, f => wst m (war m f)

/-- All that is above. -/
def upF (n : Nat) (es : List (Nat × Nat)) : Nat → Nat := war n (prF es)

/-- The rows ahead of t gone through. -/
def wsP (m t : Nat) (f : Nat → Nat) (i : Nat) : Nat := if i < t then wst m f i else f i

theorem wst_self (m : Nat) (f : Nat → Nat) : wst m f m = f m := by
  unfold wst
  split
  · exact Nat.or_self _
  · rfl

theorem wsP_self (m t : Nat) (f : Nat → Nat) : wsP m t f m = f m := by
  unfold wsP
  split
  · exact wst_self m f
  · rfl

theorem wsP_at (m t : Nat) (f : Nat → Nat) : wsP m t f t = f t := by
  unfold wsP
  rw [if_neg (by omega)]

theorem wsP_zero (m : Nat) (f : Nat → Nat) : wsP m 0 f = f := by
  funext i
  unfold wsP
  rw [if_neg (by omega)]

theorem wsP_succ (m t : Nat) (f : Nat → Nat) (i : Nat) : wsP m (t + 1) f i = if i = t then wst m f t else wsP m t f i := by
  unfold wsP
  by_cases e : i = t
  · subst e
    rw [if_pos (by omega), if_pos rfl]
  · rw [if_neg e]
    by_cases h : i < t
    · rw [if_pos (by omega), if_pos h]
    · rw [if_neg (by omega), if_neg h]

theorem wst_bit (m : Nat) (f : Nat → Nat) (i k : Nat) : (wst m f i).testBit k = true ↔ (f i).testBit k = true ∨ ((f i).testBit m = true ∧ (f m).testBit k = true) := by
  unfold wst
  by_cases h : (f i).testBit m = true
  · rw [if_pos h, Nat.testBit_or, Bool.or_eq_true]
    simp [h]
  · rw [if_neg h]
    simp [h]

theorem war_tr (f : Nat → Nat) : ∀ (m i j k : Nat), j < m → (war m f i).testBit j = true → (war m f j).testBit k = true → (war m f i).testBit k = true
  | 0, i, j, k, h, _, _ => by omega
  | m + 1, i, j, k, h, h1, h2 => by
    have ih := war_tr f m
    simp only [war] at h1 h2 ⊢
    generalize war m f = g at *
    rw [wst_bit] at h1 h2 ⊢
    by_cases e : j = m
    · subst e
      rcases h1 with h1 | ⟨h1, _⟩ <;> rcases h2 with h2 | ⟨_, h2⟩ <;> exact .inr ⟨h1, h2⟩
    · have hj : j < m := by omega
      rcases h1 with h1 | ⟨h1, h3⟩ <;> rcases h2 with h2 | ⟨h2, h4⟩
      · exact .inl (ih i j k hj h1 h2)
      · exact .inr ⟨ih i j m hj h1 h2, h4⟩
      · exact .inr ⟨h1, ih m j k hj h3 h2⟩
      · exact .inr ⟨h1, h4⟩

theorem prF_bit : ∀ (es : List (Nat × Nat)) (i k : Nat), (prF es i).testBit k = true → (i, k) ∈ es := by
  have key : ∀ (es : List (Nat × Nat)) (i k s : Nat), (es.foldl (fun s e => if e.1 = i then s ||| 2 ^ e.2 else s) s).testBit k = true → s.testBit k = true ∨ (i, k) ∈ es := by
    intro es
    induction es with
    | nil => intro i k s h; exact .inl h
    | cons e es ih =>
      intro i k s h
      simp only [List.foldl_cons] at h
      rcases ih i k _ h with h1 | h1
      · by_cases he : e.1 = i
        · rw [if_pos he, Nat.testBit_or, Bool.or_eq_true, Nat.testBit_two_pow] at h1
          rcases h1 with h1 | h1
          · exact .inl h1
          · refine .inr ?_
            have h2 : e.2 = k := by simpa using h1
            rw [← he, ← h2]
            exact List.mem_cons_self
        · rw [if_neg he] at h1
          exact .inl h1
      · exact .inr (List.mem_cons_of_mem _ h1)
  intro es i k h
  rcases key es i k 0 h with h1 | h1
  · simp at h1
  · exact h1

theorem prF_lt {n : Nat} {es : List (Nat × Nat)} (h : ∀ e ∈ es, e.2 < n) (i : Nat) : prF es i < 2 ^ n := by
  refine Nat.lt_pow_two_of_testBit _ fun k hk => ?_
  cases hb : (prF es i).testBit k
  · rfl
  · have := h _ (prF_bit es i k hb)
    simp at this
    omega

theorem war_lt {n : Nat} {f : Nat → Nat} (h : ∀ i, f i < 2 ^ n) : ∀ (m i : Nat), war m f i < 2 ^ n
  | 0, i => h i
  | m + 1, i => by
    simp only [war, wst]
    split
    · exact Nat.or_lt_two_pow (war_lt h m i) (war_lt h m m)
    · exact war_lt h m i

theorem war_down {f : Nat → Nat} (h : ∀ i k, (f i).testBit k = true → k < i) : ∀ (m i k : Nat), (war m f i).testBit k = true → k < i
  | 0, i, k, hb => h i k hb
  | m + 1, i, k, hb => by
    simp only [war] at hb
    rw [wst_bit] at hb
    rcases hb with hb | ⟨h1, h2⟩
    · exact war_down h m i k hb
    · have := war_down h m i m h1
      have := war_down h m m k h2
      omega

theorem upF_ord {n : Nat} {es : List (Nat × Nat)} (h : ∀ e ∈ es, e.2 < n) (hi : ∀ i, i < n → (upF n es i).testBit i = false) : PoO n (upF n es) :=
  ⟨fun i _ => war_lt (prF_lt h) n i, hi, fun i j k _ hj _ h1 h2 => war_tr _ n i j k hj h1 h2⟩

theorem upF_down {n : Nat} {es : List (Nat × Nat)} (h : ∀ e ∈ es, e.2 < e.1) (i : Nat) : (upF n es i).testBit i = false := by
  cases hb : (upF n es i).testBit i
  · rfl
  · have := war_down (f := prF es) (fun i k hb => h _ (prF_bit es i k hb)) n i i hb
    omega

end Go.Proofs.YtcmemhdlendlkaaDoor
