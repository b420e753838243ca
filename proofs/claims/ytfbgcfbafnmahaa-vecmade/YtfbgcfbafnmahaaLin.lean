/- Plain facts on sums, and on the determinant as a sum over all choices of columns. -/
namespace Go.Proofs.Ytfbgcfbafnmahaa.Lin

/-- The sum of f over 0 .. n - 1. -/
def sumN : Nat → (Nat → Int) → Int
  | 0, _ => 0
  | n + 1, f => sumN n f + f n

theorem sumN_congr {n : Nat} {f g : Nat → Int} (h : ∀ i, i < n → f i = g i) : sumN n f = sumN n g := by
  induction n with
  | zero => rfl
  | succ n ih => simp only [sumN]; rw [ih (fun i hi => h i (by omega)), h n (by omega)]

theorem sumN_zero {n : Nat} {f : Nat → Int} (h : ∀ i, i < n → f i = 0) : sumN n f = 0 := by
  induction n with
  | zero => rfl
  | succ n ih => simp only [sumN]; rw [ih (fun i hi => h i (by omega)), h n (by omega)]; rfl

theorem sumN_add (n : Nat) (f g : Nat → Int) : sumN n (fun i => f i + g i) = sumN n f + sumN n g := by
  induction n with
  | zero => rfl
  | succ n ih => simp only [sumN]; rw [ih]; omega

theorem sumN_mul (n : Nat) (c : Int) (f : Nat → Int) : sumN n (fun i => c * f i) = c * sumN n f := by
  induction n with
  | zero => simp [sumN]
  | succ n ih => simp only [sumN]; rw [ih, Int.mul_add]

theorem sumN_mul_right (n : Nat) (c : Int) (f : Nat → Int) : sumN n (fun i => f i * c) = sumN n f * c := by
  rw [Int.mul_comm, ← sumN_mul]; exact sumN_congr fun i _ => Int.mul_comm _ _

theorem sumN_neg (n : Nat) (f : Nat → Int) : sumN n (fun i => - f i) = - sumN n f := by
  induction n with
  | zero => rfl
  | succ n ih => simp only [sumN]; rw [ih]; omega

theorem sumN_swap (n m : Nat) (f : Nat → Nat → Int) : sumN n (fun i => sumN m (fun j => f i j)) = sumN m (fun j => sumN n (fun i => f i j)) := by
  induction n with
  | zero => simp only [sumN]; exact (sumN_zero fun _ _ => rfl).symm
  | succ n ih => simp only [sumN]; rw [ih, sumN_add]

/-- A double sum of what turns its sign when its two places are changed. -/
theorem sumN_anti {n : Nat} {f : Nat → Nat → Int} (h : ∀ i j, i < n → j < n → f i j = - f j i) : sumN n (fun i => sumN n (fun j => f i j)) = 0 := by
  have e1 : sumN n (fun i => sumN n (fun j => f i j)) = sumN n (fun i => sumN n (fun j => - f j i)) :=
    sumN_congr fun i hi => sumN_congr fun j hj => h i j hi hj
  have e2 : sumN n (fun i => sumN n (fun j => - f j i)) = - sumN n (fun i => sumN n (fun j => f i j)) := by
    rw [← sumN_neg]
    rw [sumN_swap n n (fun i j => - f j i)]
    exact sumN_congr fun i _ => by rw [sumN_neg]
  omega

/-- One place alone counts. -/
theorem sumN_one {n : Nat} {f : Nat → Int} {k : Nat} (hk : k < n) (h : ∀ i, i < n → i ≠ k → f i = 0) : sumN n f = f k := by
  induction n with
  | zero => omega
  | succ n ih =>
    simp only [sumN]
    by_cases e : k = n
    · subst e; rw [sumN_zero fun i hi => h i (by omega) (by omega)]; omega
    · rw [ih (by omega) fun i hi => h i (by omega), h n (by omega) (fun e' => e e'.symm)]; omega

/-- Is a number beyond k used an odd number of times? The sign of a choice. -/
def sg : Nat → (Nat → Bool) → Nat → Int
  | 0, _, _ => 1
  | n + 1, U, k => if k < n ∧ U n = true then - sg n U k else sg n U k

def ins (U : Nat → Bool) (k : Nat) : Nat → Bool := fun j => if j = k then true else U j

theorem ins_comm (U : Nat → Bool) (k l : Nat) : ins (ins U k) l = ins (ins U l) k := by
  funext j; unfold ins; by_cases h1 : j = l <;> by_cases h2 : j = k <;> simp [h1, h2]

theorem sg_ins {n : Nat} {U : Nat → Bool} {k l : Nat} (hk : k < n) (hU : U k = false) : sg n (ins U k) l = sg n U l * (if l < k then -1 else 1) := by
  induction n with
  | zero => omega
  | succ n ih =>
    simp only [sg]
    by_cases e : k = n
    · subst e
      have hsame : ∀ m, m ≤ k → sg m (ins U k) l = sg m U l := by
        intro m hm
        induction m with
        | zero => rfl
        | succ m im =>
          simp only [sg]
          rw [im (by omega)]
          have : ins U k m = U m := by unfold ins; rw [if_neg (by omega)]
          rw [this]
      rw [hsame k (by omega)]
      have hi : ins U k k = true := by simp [ins]
      rw [hi, hU]
      by_cases hl : l < k
      · simp [hl]
      · simp [hl]
    · have hi : ins U k n = U n := by unfold ins; rw [if_neg (by omega)]
      rw [hi, ih (by omega)]
      by_cases h : l < n ∧ U n = true
      · rw [if_pos h, if_pos h, Int.neg_mul]
      · rw [if_neg h, if_neg h]

/-- The determinant of rows, by all choices of columns 0 .. n - 1 that are not used. -/
def od (n : Nat) : List (Nat → Int) → (Nat → Bool) → Int
  | [], _ => 1
  | r :: rs, U => sumN n fun k => if U k then 0 else sg n U k * r k * od n rs (ins U k)

def lc (a : Int) (u : Nat → Int) (b : Int) (v : Nat → Int) : Nat → Int := fun k => a * u k + b * v k

theorem od_lin (n : Nat) (A B : List (Nat → Int)) (a b : Int) (u v : Nat → Int) (U : Nat → Bool) :
    od n (A ++ lc a u b v :: B) U = a * od n (A ++ u :: B) U + b * od n (A ++ v :: B) U := by
  induction A generalizing U with
  | nil =>
    simp only [List.nil_append, od]
    rw [← sumN_mul, ← sumN_mul, ← sumN_add]
    refine sumN_congr fun k _ => ?_
    cases U k
    · simp only [Bool.false_eq_true, if_false, lc]; grind
    · simp
  | cons r A ih =>
    simp only [List.cons_append, od]
    rw [← sumN_mul, ← sumN_mul, ← sumN_add]
    refine sumN_congr fun k _ => ?_
    cases U k
    · simp only [Bool.false_eq_true, if_false]; rw [ih]; grind
    · simp

theorem od_equal (n : Nat) (A B : List (Nat → Int)) (u : Nat → Int) (U : Nat → Bool) : od n (A ++ u :: u :: B) U = 0 := by
  induction A generalizing U with
  | nil =>
    simp only [List.nil_append, od]
    have e : ∀ k, (if U k = true then (0 : Int) else sg n U k * u k * sumN n fun l => if ins U k l = true then 0 else sg n (ins U k) l * u l * od n B (ins (ins U k) l)) =
        sumN n fun l => if U k = true ∨ U l = true ∨ k = l then 0 else sg n U k * u k * (sg n (ins U k) l * u l * od n B (ins (ins U k) l)) := by
      intro k
      by_cases hk : U k = true
      · simp only [hk, if_true]
        exact (sumN_zero fun l _ => by simp).symm
      · rw [if_neg hk, ← sumN_mul]
        refine sumN_congr fun l _ => ?_
        by_cases hl : U l = true ∨ k = l
        · have : ins U k l = true := by unfold ins; rcases hl with h | h
                                        · simp [h]
                                        · simp [h]
          rw [if_pos this, if_pos (Or.inr hl)]; simp
        · have : ¬ ins U k l = true := by
            unfold ins; rw [if_neg (fun e => hl (Or.inr e.symm))]; exact fun h => hl (Or.inl h)
          rw [if_neg this, if_neg (by intro h; rcases h with h | h; exact hk h; exact hl h)]
    rw [sumN_congr fun k _ => e k]
    refine sumN_anti fun k l hk hl => ?_
    by_cases h : U k = true ∨ U l = true ∨ k = l
    · rw [if_pos h, if_pos (by rcases h with h | h | h; exact Or.inr (Or.inl h); exact Or.inl h; exact Or.inr (Or.inr h.symm))]; rfl
    · rw [if_neg h, if_neg (by intro h'; apply h; rcases h' with h' | h' | h'; exact Or.inr (Or.inl h'); exact Or.inl h'; exact Or.inr (Or.inr h'.symm))]
      have hUk : U k = false := by cases e : U k; rfl; exact absurd (Or.inl e) h
      have hUl : U l = false := by cases e : U l; rfl; exact absurd (Or.inr (Or.inl e)) h
      have hkl : k ≠ l := fun e => h (Or.inr (Or.inr e))
      rw [sg_ins hk hUk, sg_ins hl hUl, ins_comm U k l]
      by_cases hlt : k < l
      · rw [if_neg (by omega : ¬ l < k), if_pos hlt]; grind
      · rw [if_pos (by omega : l < k), if_neg hlt]; grind
  | cons r A ih =>
    simp only [List.cons_append, od]
    refine sumN_zero fun k _ => ?_
    rw [ih]; simp

end Go.Proofs.Ytfbgcfbafnmahaa.Lin
