/- Plain facts on sums, and on the determinant as a sum over all choices of columns. -/

namespace Go.Proofs.YtilblfoapjnmaaaGreatDoor.Lin

/-- The sum of f over 0 .. n - 1. -/
def sumN : Nat → (Nat → Int) → Int
  | 0, _ => 0
  | n + 1, f => sumN n f + f n

theorem sumN_congr {n : Nat} {f g : Nat → Int} (h : ∀ i, i < n → f i = g i) : sumN n f = sumN n g := by
  induction n with
  | zero => rfl
  | succ n ih => simp only [sumN]; rw [ih (fun i hi => h i (by omega)), h n (by omega)]

theorem sumN_zero {n : Nat} {f : Nat → Int} (h : ∀ i, i < n → f i = 0) : sumN n f = 0 := by
  induction n with
  | zero => rfl
  | succ n ih => simp only [sumN]; rw [ih (fun i hi => h i (by omega)), h n (by omega)]; rfl

theorem sumN_add (n : Nat) (f g : Nat → Int) : sumN n (fun i => f i + g i) = sumN n f + sumN n g := by
  induction n with
  | zero => rfl
  | succ n ih => simp only [sumN]; rw [ih]; omega

theorem sumN_mul (n : Nat) (c : Int) (f : Nat → Int) : sumN n (fun i => c * f i) = c * sumN n f := by
  induction n with
  | zero => simp [sumN]
  | succ n ih => simp only [sumN]; rw [ih, Int.mul_add]

theorem sumN_mul_right (n : Nat) (c : Int) (f : Nat → Int) : sumN n (fun i => f i * c) = sumN n f * c := by
  rw [Int.mul_comm, ← sumN_mul]; exact sumN_congr fun i _ => Int.mul_comm _ _

theorem sumN_neg (n : Nat) (f : Nat → Int) : sumN n (fun i => - f i) = - sumN n f := by
  induction n with
  | zero => rfl
  | succ n ih => simp only [sumN]; rw [ih]; omega

theorem sumN_swap (n m : Nat) (f : Nat → Nat → Int) : sumN n (fun i => sumN m (fun j => f i j)) = sumN m (fun j => sumN n (fun i => f i j)) := by
  induction n with
  | zero => simp only [sumN]; exact (sumN_zero fun _ _ => rfl).symm
  | succ n ih => simp only [sumN]; rw [ih, sumN_add]

/-- A double sum of what turns its sign when its two places are changed. -/
theorem sumN_anti {n : Nat} {f : Nat → Nat → Int} (h : ∀ i j, i < n → j < n → f i j = - f j i) : sumN n (fun i => sumN n (fun j => f i j)) = 0 := by
  have e1 : sumN n (fun i => sumN n (fun j => f i j)) = sumN n (fun i => sumN n (fun j => - f j i)) :=
    sumN_congr fun i hi => sumN_congr fun j hj => h i j hi hj
  have e2 : sumN n (fun i => sumN n (fun j => - f j i)) = - sumN n (fun i => sumN n (fun j => f i j)) := by
    rw [← sumN_neg]
    rw [sumN_swap n n (fun i j => - f j i)]
    exact sumN_congr fun i _ => by rw [sumN_neg]
  omega

/-- Is a number beyond k used an odd number of times? The sign of a choice. -/
def sg : Nat → (Nat → Bool) → Nat → Int
  | 0, _, _ => 1
  | n + 1, U, k => if k < n ∧ U n = true then - sg n U k else sg n U k

def ins (U : Nat → Bool) (k : Nat) : Nat → Bool := fun j => if j = k then true else U j

theorem ins_comm (U : Nat → Bool) (k l : Nat) : ins (ins U k) l = ins (ins U l) k := by
  funext j; unfold ins; by_cases h1 : j = l <;> by_cases h2 : j = k <;> simp [h1, h2]

theorem sg_ins {n : Nat} {U : Nat → Bool} {k l : Nat} (hk : k < n) (hU : U k = false) : sg n (ins U k) l = sg n U l * (if l < k then -1 else 1) := by
  induction n with
  | zero => omega
  | succ n ih =>
    simp only [sg]
    by_cases e : k = n
    · subst e
      have hsame : ∀ m, m ≤ k → sg m (ins U k) l = sg m U l := by
        intro m hm
        induction m with
        | zero => rfl
        | succ m im =>
          simp only [sg]
          rw [im (by omega)]
          have : ins U k m = U m := by unfold ins; rw [if_neg (by omega)]
          rw [this]
      rw [hsame k (by omega)]
      have hi : ins U k k = true := by simp [ins]
      rw [hi, hU]
      by_cases hl : l < k
      · simp [hl]
      · simp [hl]
    · have hi : ins U k n = U n := by unfold ins; rw [if_neg (by omega)]
      rw [hi, ih (by omega)]
      by_cases h : l < n ∧ U n = true
      · rw [if_pos h, if_pos h, Int.neg_mul]
      · rw [if_neg h, if_neg h]

/-- The determinant of rows, by all choices of columns 0 .. n - 1 that are not used. -/
def od (n : Nat) : List (Nat → Int) → (Nat → Bool) → Int
  | [], _ => 1
  | r :: rs, U => sumN n fun k => if U k then 0 else sg n U k * r k * od n rs (ins U k)

def lc (a : Int) (u : Nat → Int) (b : Int) (v : Nat → Int) : Nat → Int := fun k => a * u k + b * v k

theorem od_lin (n : Nat) (A B : List (Nat → Int)) (a b : Int) (u v : Nat → Int) (U : Nat → Bool) :
    od n (A ++ lc a u b v :: B) U = a * od n (A ++ u :: B) U + b * od n (A ++ v :: B) U := by
  induction A generalizing U with
  | nil =>
    simp only [List.nil_append, od]
    rw [← sumN_mul, ← sumN_mul, ← sumN_add]
    refine sumN_congr fun k _ => ?_
    cases U k
    · simp only [Bool.false_eq_true, if_false, lc]; grind
    · simp
  | cons r A ih =>
    simp only [List.cons_append, od]
    rw [← sumN_mul, ← sumN_mul, ← sumN_add]
    refine sumN_congr fun k _ => ?_
    cases U k
    · simp only [Bool.false_eq_true, if_false]; rw [ih]; grind
    · simp

theorem od_equal (n : Nat) (A B : List (Nat → Int)) (u : Nat → Int) (U : Nat → Bool) : od n (A ++ u :: u :: B) U = 0 := by
  induction A generalizing U with
  | nil =>
    simp only [List.nil_append, od]
    have e : ∀ k, (if U k = true then (0 : Int) else sg n U k * u k * sumN n fun l => if ins U k l = true then 0 else sg n (ins U k) l * u l * od n B (ins (ins U k) l)) =
        sumN n fun l => if U k = true ∨ U l = true ∨ k = l then 0 else sg n U k * u k * (sg n (ins U k) l * u l * od n B (ins (ins U k) l)) := by
      intro k
      by_cases hk : U k = true
      · simp only [hk, if_true]
        exact (sumN_zero fun l _ => by simp).symm
      · rw [if_neg hk, ← sumN_mul]
        refine sumN_congr fun l _ => ?_
        by_cases hl : U l = true ∨ k = l
        · have : ins U k l = true := by unfold ins; rcases hl with h | h
                                        · simp [h]
                                        · simp [h]
          rw [if_pos this, if_pos (Or.inr hl)]; simp
        · have : ¬ ins U k l = true := by
            unfold ins; rw [if_neg (fun e => hl (Or.inr e.symm))]; exact fun h => hl (Or.inl h)
          rw [if_neg this, if_neg (by intro h; rcases h with h | h; exact hk h; exact hl h)]
    rw [sumN_congr fun k _ => e k]
    refine sumN_anti fun k l hk hl => ?_
    by_cases h : U k = true ∨ U l = true ∨ k = l
    · rw [if_pos h, if_pos (by rcases h with h | h | h; exact Or.inr (Or.inl h); exact Or.inl h; exact Or.inr (Or.inr h.symm))]; rfl
    · rw [if_neg h, if_neg (by intro h'; apply h; rcases h' with h' | h' | h'; exact Or.inr (Or.inl h'); exact Or.inl h'; exact Or.inr (Or.inr h'.symm))]
      have hUk : U k = false := by cases e : U k; rfl; exact absurd (Or.inl e) h
      have hUl : U l = false := by cases e : U l; rfl; exact absurd (Or.inr (Or.inl e)) h
      have hkl : k ≠ l := fun e => h (Or.inr (Or.inr e))
      rw [sg_ins hk hUk, sg_ins hl hUl, ins_comm U k l]
      by_cases hlt : k < l
      · rw [if_neg (by omega : ¬ l < k), if_pos hlt]; grind
      · rw [if_pos (by omega : l < k), if_neg hlt]; grind
  | cons r A ih =>
    simp only [List.cons_append, od]
    refine sumN_zero fun k _ => ?_
    rw [ih]; simp

end Go.Proofs.YtilblfoapjnmaaaGreatDoor.Lin

/- Plain facts on determinants: rows that hang on others, elimination, how many vectors can be free. -/
namespace Go.Proofs.YtilblfoapjnmaaaGreatDoor.Lin

theorem od_congr {n : Nat} {A B : List (Nat → Int)} (hl : A.length = B.length) (h : ∀ i, i < A.length → ∀ k, k < n → (A.getD i (fun _ => 0)) k = (B.getD i (fun _ => 0)) k) (U : Nat → Bool) : od n A U = od n B U := by
  induction A generalizing B U with
  | nil => cases B with
    | nil => rfl
    | cons b B => simp at hl
  | cons a A ih => cases B with
    | nil => simp at hl
    | cons b B =>
      simp only [od]
      refine sumN_congr fun k hk => ?_
      have h0 := h 0 (by simp) k hk
      simp only [List.getD_cons_zero] at h0
      rw [h0, ih (by simpa using hl) (fun i hi k hk => by have := h (i + 1) (by simpa using hi) k hk; simpa using this)]

theorem od_swap (n : Nat) (A B : List (Nat → Int)) (u v : Nat → Int) (U : Nat → Bool) : od n (A ++ u :: v :: B) U = - od n (A ++ v :: u :: B) U := by
  have h := od_equal n A B (lc 1 u 1 v) U
  have e1 := od_lin n A (lc 1 u 1 v :: B) 1 1 u v U
  have e2 := od_lin n (A ++ [u]) B 1 1 u v U
  have e3 := od_lin n (A ++ [v]) B 1 1 u v U
  simp only [List.append_assoc, List.cons_append, List.nil_append] at e2 e3
  have z1 := od_equal n A B u U
  have z2 := od_equal n A B v U
  rw [h] at e1
  rw [e2, e3, z1, z2] at e1
  omega

theorem od_two (n : Nat) (A B C : List (Nat → Int)) (u : Nat → Int) (U : Nat → Bool) : od n (A ++ u :: (B ++ u :: C)) U = 0 := by
  induction B generalizing A with
  | nil => exact od_equal n A C u U
  | cons b B ih =>
    rw [List.cons_append, od_swap]
    have := ih (A ++ [b])
    simp only [List.append_assoc, List.cons_append, List.nil_append] at this
    rw [this]; rfl

/-- A sum of rows, each so many times. -/
def comb (m : Nat) (c : Nat → Int) (L : Nat → Nat → Int) : Nat → Int := fun k => sumN m fun i => c i * L i k

def row (L : List (Nat → Int)) (i : Nat) : Nat → Int := L.getD i fun _ => 0

theorem set_split {L : List (Nat → Int)} {p : Nat} (hp : p < L.length) (x : Nat → Int) : L.set p x = L.take p ++ x :: L.drop (p + 1) := by
  rw [List.set_eq_take_append_cons_drop, if_pos hp]

theorem set_row {L : List (Nat → Int)} {p : Nat} (hp : p < L.length) : L.set p (row L p) = L := by
  have : row L p = L[p] := by simp [row, hp]
  rw [this, List.set_getElem_self]

/-- How many columns are not used. -/
def cu : Nat → (Nat → Bool) → Nat
  | 0, _ => 0
  | n + 1, U => cu n U + if U n then 0 else 1

theorem cu_ins {n : Nat} {U : Nat → Bool} {k : Nat} (hk : k < n) (hU : U k = false) : cu n (ins U k) + 1 = cu n U := by
  induction n with
  | zero => omega
  | succ n ih =>
    simp only [cu]
    by_cases e : k = n
    · subst e
      have hs : ∀ m, m ≤ k → cu m (ins U k) = cu m U := by
        intro m hm
        induction m with
        | zero => rfl
        | succ m im =>
          have hi : ins U k m = U m := by unfold ins; rw [if_neg (by omega)]
          simp only [cu]; rw [im (by omega), hi]
      rw [hs k (Nat.le_refl _), hU]
      simp [ins]
    · have hi : ins U k n = U n := by unfold ins; rw [if_neg (by omega)]
      rw [hi]
      have := ih (by omega)
      omega

theorem cu_pos {n : Nat} {U : Nat → Bool} {k : Nat} (hk : k < n) (hU : U k = false) : 0 < cu n U := by
  have := cu_ins hk hU; omega

theorem cu_none (n : Nat) : cu n (fun _ => false) = n := by
  induction n with
  | zero => rfl
  | succ n ih => simp [cu, ih]

/-- A column of noughts that must be used. -/
theorem od_col {n : Nat} {q : Nat} (hq : q < n) (L : List (Nat → Int)) (U : Nat → Bool) (hU : U q = false) (hL : ∀ r ∈ L, r q = 0) (hc : cu n U ≤ L.length) : od n L U = 0 := by
  induction L generalizing U with
  | nil => have := cu_pos hq hU; simp at hc; omega
  | cons r L ih =>
    simp only [od]
    refine sumN_zero fun k hk => ?_
    cases hk' : U k
    · simp only [Bool.false_eq_true, if_false]
      by_cases e : k = q
      · subst e; rw [hL r (by simp)]; simp
      · rw [ih (ins U k) (by unfold ins; rw [if_neg (fun h => e h.symm)]; exact hU) (fun r hr => hL r (by simp [hr])) (by have := cu_ins hk hk'; simp at hc; omega)]
        simp
    · simp

theorem sg_last {n : Nat} (U : Nat → Bool) {k : Nat} (hk : n ≤ k + 1) : sg n U k = 1 := by
  induction n with
  | zero => rfl
  | succ n ih => simp only [sg]; rw [if_neg (by omega), ih (by omega)]

theorem sg_free {n : Nat} {U : Nat → Bool} (hU : U n = false) (k : Nat) : sg (n + 1) U k = sg n U k := by
  simp only [sg, hU]; simp

/-- The last row has just its last number. -/
theorem od_end {n : Nat} (L : List (Nat → Int)) (v : Nat → Int) (hv : ∀ k, k < n → v k = 0) (U : Nat → Bool) :
    od (n + 1) (L ++ [v]) U = if U n then 0 else od n L U * v n := by
  induction L generalizing U with
  | nil =>
    simp only [List.nil_append, od, sumN]
    rw [sumN_zero (fun k hk => by rw [hv k hk]; simp)]
    rw [sg_last U (by omega)]
    cases U n <;> simp
  | cons r L ih =>
    simp only [List.cons_append, od]
    cases hU : U n
    · simp only [Bool.false_eq_true, if_false]
      rw [sumN, ih, hU]
      simp only [Bool.false_eq_true, if_false]
      rw [if_pos (by simp [ins]), Int.mul_zero, Int.add_zero, ← sumN_mul_right]
      refine sumN_congr fun k hk => ?_
      cases U k
      · simp only [Bool.false_eq_true, if_false]
        rw [ih, if_neg (by unfold ins; rw [if_neg (by omega), hU]; simp), sg_free hU]
        simp only [Int.mul_assoc]
      · simp
    · simp only [if_true]
      refine sumN_zero fun k hk => ?_
      cases hk' : U k
      · rw [ih]
        have : ins U k n = true := by unfold ins; by_cases e : n = k <;> simp [e, hU]
        rw [this]; simp
      · simp

/-- Rising columns below c. -/
def Rising (m c : Nat) (C : Nat → Nat) : Prop := (∀ i j, i < j → j < m → C i < C j) ∧ ∀ i, i < m → C i < c

def cols (L : List (Nat → Int)) (C : Nat → Nat) : List (Nat → Int) := L.map fun r => fun k => r (C k)

/-- Each place of a list without its p-th. -/
def skp (p i : Nat) : Nat := if i < p then i else i + 1

theorem erase_row {L : List (Nat → Int)} {p i : Nat} : row (L.eraseIdx p) i = row L (skp p i) := by
  unfold row skp
  simp only [List.getD_eq_getElem?_getD]
  by_cases h : i < p
  · rw [List.getElem?_eraseIdx_of_lt h, if_pos h]
  · rw [List.getElem?_eraseIdx_of_ge (by omega), if_neg h]

theorem sumN_skp {n : Nat} {f : Nat → Int} {p : Nat} (hp : p ≤ n) : sumN (n + 1) f = sumN n (fun i => f (skp p i)) + f p := by
  induction n with
  | zero => have : p = 0 := by omega
            subst this; simp [sumN]
  | succ n ih =>
    by_cases e : p = n + 1
    · subst e
      rw [sumN]
      congr 1
      exact sumN_congr fun i hi => by unfold skp; rw [if_pos (by omega)]
    · rw [sumN, ih (by omega), sumN]
      have : skp p n = n + 1 := by unfold skp; rw [if_neg (by omega)]
      rw [this]; omega

end Go.Proofs.YtilblfoapjnmaaaGreatDoor.Lin

/- Plain facts: elimination; as many free vectors as there are at most. -/
namespace Go.Proofs.YtilblfoapjnmaaaGreatDoor.Lin

theorem od_scaled (n : Nat) (v : Nat → Int) (x : Int) (g : (Nat → Int) → Int) (Q : List (Nat → Int)) (P : List (Nat → Int)) (U : Nat → Bool) :
    od n (P ++ (Q.map fun r => lc x r (- g r) v) ++ [v]) U = x ^ Q.length * od n (P ++ Q ++ [v]) U := by
  induction Q generalizing P with
  | nil => simp
  | cons q Q ih =>
    simp only [List.map_cons, List.length_cons]
    have e := od_lin n P ((Q.map fun r => lc x r (- g r) v) ++ [v]) x (- g q) q v U
    have z := od_two n P (Q.map fun r => lc x r (- g r) v) [] v U
    rw [z, Int.mul_zero, Int.add_zero] at e
    have h := ih (P ++ [q])
    simp only [List.append_assoc, List.cons_append, List.nil_append] at e h ⊢
    rw [e, h, Int.pow_succ]; grind

theorem od_to_end (n : Nat) (A B : List (Nat → Int)) (v : Nat → Int) (U : Nat → Bool) : od n (A ++ v :: B) U = 0 ↔ od n (A ++ B ++ [v]) U = 0 := by
  induction B generalizing A with
  | nil => simp
  | cons b B ih =>
    rw [od_swap]
    have h := ih (A ++ [b])
    simp only [List.append_assoc, List.cons_append, List.nil_append] at h ⊢
    rw [← h]; omega

def unsk (p j : Nat) : Nat := if j < p then j else j - 1

theorem unsk_skp (p i : Nat) : unsk p (skp p i) = i := by
  unfold unsk skp
  by_cases h : i < p
  · simp [h]
  · simp [h, show ¬ i + 1 < p by omega]

theorem skp_ne (p i : Nat) : skp p i ≠ p := by
  unfold skp; by_cases h : i < p <;> simp [h] <;> omega

theorem skp_lt {p i n : Nat} (hi : i < n) : skp p i < n + 1 := by
  unfold skp; by_cases h : i < p <;> simp [h] <;> omega

theorem row_map {L : List (Nat → Int)} {f : (Nat → Int) → (Nat → Int)} {i : Nat} (hi : i < L.length) : row (L.map f) i = f (row L i) := by
  simp [row, hi]

theorem row_mem {L : List (Nat → Int)} {i : Nat} (hi : i < L.length) : row L i ∈ L := by
  have : row L i = L[i] := by simp [row, hi]
  rw [this]; exact List.getElem_mem hi

theorem mem_row {L : List (Nat → Int)} {r : Nat → Int} (h : r ∈ L) : ∃ i, i < L.length ∧ row L i = r := by
  obtain ⟨i, hi, e⟩ := List.mem_iff_getElem.1 h
  exact ⟨i, hi, by simp [row, hi, e]⟩

/-- Rows: a square of theirs is not 0, or they hang on each other. -/
theorem elim (c : Nat) : ∀ L : List (Nat → Int), (∃ C, Rising L.length c C ∧ od L.length (cols L C) (fun _ => false) ≠ 0) ∨
    (∃ d p, p < L.length ∧ d p ≠ 0 ∧ ∀ k, k < c → comb L.length d (row L) k = 0) := by
  induction c with
  | zero =>
    intro L
    by_cases hL : L.length = 0
    · left
      refine ⟨id, ⟨fun i j _ hj => by omega, fun i hi => by omega⟩, ?_⟩
      have : L = [] := List.eq_nil_of_length_eq_zero hL
      subst this
      simp [cols, od]
    · right; exact ⟨fun _ => 1, 0, by omega, by decide, fun k hk => by omega⟩
  | succ c ih =>
    intro L
    by_cases hz : ∀ r ∈ L, r c = 0
    · rcases ih L with ⟨C, hC, hod⟩ | ⟨d, p, hp, hd, hk⟩
      · exact Or.inl ⟨C, ⟨hC.1, fun i hi => by have := hC.2 i hi; omega⟩, hod⟩
      · refine Or.inr ⟨d, p, hp, hd, fun k hk' => ?_⟩
        by_cases e : k = c
        · subst e
          exact sumN_zero fun i hi => by rw [hz _ (row_mem hi), Int.mul_zero]
        · exact hk k (by omega)
    · have hz' : ∃ p, p < L.length ∧ row L p c ≠ 0 := by
        apply Classical.byContradiction
        intro hn
        apply hz
        intro r hr
        obtain ⟨i, hi, rfl⟩ := mem_row hr
        apply Classical.byContradiction
        intro h0
        exact hn ⟨i, hi, h0⟩
      obtain ⟨p, hp, hx⟩ := hz'
      obtain ⟨m, hm⟩ : ∃ m, L.length = m + 1 := ⟨L.length - 1, by omega⟩
      have hlen : ((L.eraseIdx p).map fun r => lc (row L p c) r (- r c) (row L p)).length = m := by
        rw [List.length_map, List.length_eraseIdx, if_pos hp]; omega
      have hle : (L.eraseIdx p).length = m := by rw [List.length_eraseIdx, if_pos hp]; omega
      have hrow : ∀ i, i < m → row ((L.eraseIdx p).map fun r => lc (row L p c) r (- r c) (row L p)) i = lc (row L p c) (row L (skp p i)) (- row L (skp p i) c) (row L p) := by
        intro i hi
        rw [row_map (by omega), erase_row]
      rcases ih ((L.eraseIdx p).map fun r => lc (row L p c) r (- r c) (row L p)) with ⟨C, hC, hod⟩ | ⟨d, q, hq, hd, hk⟩
      · left
        rw [hlen] at hC hod
        have hLL : L = L.take p ++ row L p :: L.drop (p + 1) := by
          rw [← set_split hp, set_row hp]
        have hER : L.eraseIdx p = L.take p ++ L.drop (p + 1) := List.eraseIdx_eq_take_drop_succ L p
        refine ⟨fun i => if i < m then C i else c, ⟨fun i j hij hj => ?_, fun i hi => ?_⟩, ?_⟩
        · rw [hm] at hj
          show (if i < m then C i else c) < (if j < m then C j else c)
          by_cases hjm : j < m
          · rw [if_pos (by omega), if_pos hjm]; exact hC.1 i j hij hjm
          · rw [if_pos (by omega), if_neg hjm]; exact hC.2 i (by omega)
        · show (if i < m then C i else c) < c + 1
          by_cases him : i < m
          · rw [if_pos him]; have := hC.2 i him; omega
          · rw [if_neg him]; omega
        · rw [hm]
          intro h0
          have e0 : cols L (fun i => if i < m then C i else c) = cols (L.take p) (fun i => if i < m then C i else c) ++ (fun k => row L p ((fun i => if i < m then C i else c) k)) :: cols (L.drop (p + 1)) (fun i => if i < m then C i else c) := by
            conv => lhs; rw [hLL]
            simp [cols]
          rw [e0, od_to_end] at h0
          have e1 : cols (L.take p) (fun i => if i < m then C i else c) ++ cols (L.drop (p + 1)) (fun i => if i < m then C i else c) = cols (L.eraseIdx p) (fun i => if i < m then C i else c) := by
            rw [hER]; simp [cols]
          rw [e1] at h0
          have e2 := od_scaled (m + 1) (fun k => row L p ((fun i => if i < m then C i else c) k)) (row L p c) (fun r => r m) (cols (L.eraseIdx p) (fun i => if i < m then C i else c)) [] (fun _ => false)
          rw [List.nil_append, List.nil_append, h0, Int.mul_zero] at e2
          have e3 : (cols (L.eraseIdx p) (fun i => if i < m then C i else c)).map (fun r => lc (row L p c) r (- r m) (fun k => row L p ((fun i => if i < m then C i else c) k))) =
              cols ((L.eraseIdx p).map fun r => lc (row L p c) r (- r c) (row L p)) (fun i => if i < m then C i else c) := by
            simp [cols, lc, Function.comp_def]
            intro a _
            funext k
            rfl
          rw [e3] at e2
          -- the last row in two parts
          have e4 : (fun k => row L p ((fun i => if i < m then C i else c) k)) = lc 1 (fun k => if k < m then row L p (C k) else 0) 1 (fun k => if k < m then 0 else row L p c) := by
            funext k; simp only [lc]; by_cases hk : k < m <;> simp [hk]
          have e5 := od_lin (m + 1) (cols ((L.eraseIdx p).map fun r => lc (row L p c) r (- r c) (row L p)) (fun i => if i < m then C i else c)) [] 1 1 (fun k => if k < m then row L p (C k) else 0) (fun k => if k < m then 0 else row L p c) (fun _ => false)
          rw [← e4, e2] at e5
          have hvan : ∀ r ∈ cols ((L.eraseIdx p).map fun r => lc (row L p c) r (- r c) (row L p)) (fun i => if i < m then C i else c), r m = 0 := by
            intro r hr
            simp only [cols, List.mem_map] at hr
            obtain ⟨a, ⟨b, hb, rfl⟩, rfl⟩ := hr
            simp [lc]; grind
          have e6 := od_col (n := m + 1) (q := m) (by omega) (cols ((L.eraseIdx p).map fun r => lc (row L p c) r (- r c) (row L p)) (fun i => if i < m then C i else c) ++ [fun k => if k < m then row L p (C k) else 0]) (fun _ => false) rfl
            (by intro r hr
                rcases List.mem_append.1 hr with hr | hr
                · exact hvan r hr
                · simp at hr; subst hr; simp)
            (by rw [cu_none]; simp [cols, hle])
          have e7 := od_end (n := m) (cols ((L.eraseIdx p).map fun r => lc (row L p c) r (- r c) (row L p)) (fun i => if i < m then C i else c)) (fun k => if k < m then 0 else row L p c) (fun k hk => by simp [hk]) (fun _ => false)
          rw [e6, e7] at e5
          have e8 : od m (cols ((L.eraseIdx p).map fun r => lc (row L p c) r (- r c) (row L p)) (fun i => if i < m then C i else c)) (fun _ => false) = od m (cols ((L.eraseIdx p).map fun r => lc (row L p c) r (- r c) (row L p)) C) (fun _ => false) := by
            refine od_congr (by simp [cols]) (fun i hi k hk => ?_) _
            have hi' : i < (L.eraseIdx p).length := by simpa [cols] using hi
            simp [cols, hi', hk]
          rw [e8] at e5
          simp only [Bool.false_eq_true, if_false, Int.mul_zero, Int.one_mul, Int.zero_add, Nat.lt_irrefl] at e5
          rcases Int.mul_eq_zero.1 e5.symm with h | h
          · exact hod h
          · exact hx h
      · right
        rw [hlen] at hq hk
        refine ⟨fun j => if j = p then - sumN m (fun i => d i * row L (skp p i) c) else row L p c * d (unsk p j), skp p q, ?_, ?_, fun k _ => ?_⟩
        · rw [hm]; exact skp_lt hq
        · simp only [skp_ne, if_false, unsk_skp]
          exact Int.mul_ne_zero hx hd
        · rw [hm]
          have e1 : comb (m + 1) (fun j => if j = p then - sumN m (fun i => d i * row L (skp p i) c) else row L p c * d (unsk p j)) (row L) k =
              comb m d (row ((L.eraseIdx p).map fun r => lc (row L p c) r (- r c) (row L p))) k := by
            unfold comb
            rw [sumN_skp (p := p) (by omega)]
            simp only [if_true, skp_ne, if_false, unsk_skp]
            rw [Int.neg_mul, ← sumN_mul_right, ← sumN_neg, ← sumN_add]
            refine sumN_congr fun i hi => ?_
            rw [hrow i hi]; simp only [lc]; grind
          rw [e1]
          by_cases e : k = c
          · subst e
            refine sumN_zero fun i hi => ?_
            rw [hrow i hi]; simp only [lc]; grind
          · exact hk k (by omega)

end Go.Proofs.YtilblfoapjnmaaaGreatDoor.Lin

/- Plain facts: elimination without fractions: what its numbers are. -/
namespace Go.Proofs.YtilblfoapjnmaaaGreatDoor.Lin

def srows (M : Nat → Nat → Int) (k : Nat) : List (Nat → Int) := (List.range k).map M

def dk (M : Nat → Nat → Int) (C : Nat → Nat) (k : Nat) : Int := od k (cols (srows M k) C) fun _ => false

def cf (k a : Nat) : Nat → Int := fun i => if i = k then 1 else if i = a then -1 else 0

end Go.Proofs.YtilblfoapjnmaaaGreatDoor.Lin

/- Plain facts: bounds of determinants; what elimination tells: the rank, the one direction. -/
namespace Go.Proofs.YtilblfoapjnmaaaGreatDoor.Lin

/-- m! times B^m. -/
def fb (B : Nat) : Nat → Nat
  | 0 => 1
  | m + 1 => (m + 1) * B * fb B m

end Go.Proofs.YtilblfoapjnmaaaGreatDoor.Lin

/- Plain facts: greedy choice of free rows; the direction that minors tell. -/
namespace Go.Proofs.YtilblfoapjnmaaaGreatDoor.Lin

/-! Columns but one. -/

def up (k : Nat) (U : Nat → Bool) : Nat → Bool := fun j => if j = k then true else U (unsk k j)

end Go.Proofs.YtilblfoapjnmaaaGreatDoor.Lin

/- Plain facts: lists divided by what they have in common, turned upright. -/
namespace Go.Proofs.YtilblfoapjnmaaaGreatDoor.Lin

def gcf (g : Nat) (l : List Int) : Nat := l.foldl (fun g v => Nat.gcd g v.natAbs) g
def gc (l : List Int) : Nat := gcf 0 l

def low (l : List Int) : List Int := l.map (· / (gc l : Int))

end Go.Proofs.YtilblfoapjnmaaaGreatDoor.Lin

/- Plain facts: directions that are 0 with some rows; corners of a cone of directions. -/
namespace Go.Proofs.YtilblfoapjnmaaaGreatDoor.Lin

def dot (d : Nat) (a x : Nat → Int) : Int := sumN d fun i => a i * x i

theorem dot_lc (d : Nat) (s r : Int) (a b x : Nat → Int) : dot d (fun k => s * a k + r * b k) x = s * dot d a x + r * dot d b x := by
  unfold dot
  rw [← sumN_mul, ← sumN_mul, ← sumN_add]
  exact sumN_congr fun i _ => by grind

theorem dot_zero {d : Nat} {a x : Nat → Int} (h : ∀ i, i < d → a i = 0) : dot d a x = 0 := sumN_zero fun i hi => by rw [h i hi, Int.zero_mul]

/-- Two directions are one. -/
def Par (d : Nat) (u a : Nat → Int) : Prop := ∀ i j, i < d → j < d → u i * a j = u j * a i

end Go.Proofs.YtilblfoapjnmaaaGreatDoor.Lin

/- Plain facts: the directions in which a point is greatest hang on its rows. -/
namespace Go.Proofs.YtilblfoapjnmaaaGreatDoor.Lin

/-- How many differences a direction is not 0 with. -/
def loose (d : Nat) (Z : List (Nat → Int)) (c : Nat → Int) : Nat := Z.countP fun z => decide (dot d c z ≠ 0)

theorem loose_lt {d : Nat} {Z : List (Nat → Int)} {c e : Nat → Int} (h : ∀ z ∈ Z, dot d c z = 0 → dot d e z = 0) {z1 : Nat → Int} (hz : z1 ∈ Z) (hc : dot d c z1 ≠ 0) (he : dot d e z1 = 0) : loose d Z e < loose d Z c := by
  unfold loose
  obtain ⟨A, B, rfl⟩ := List.append_of_mem hz
  have mono : ∀ X : List (Nat → Int), (∀ z ∈ X, dot d c z = 0 → dot d e z = 0) → X.countP (fun z => decide (dot d e z ≠ 0)) ≤ X.countP (fun z => decide (dot d c z ≠ 0)) := by
    intro X hX
    refine List.countP_mono_left fun z hz hp => ?_
    simp only [decide_eq_true_eq] at hp ⊢
    exact fun h0 => hp (hX z hz h0)
  have h1 := mono A fun z hz => h z (by simp [hz])
  have h2 := mono B fun z hz => h z (by simp [hz])
  rw [List.countP_append, List.countP_append, List.countP_cons_of_neg (by simp [he]), List.countP_cons_of_pos (by simp [hc])]
  omega

/-- Of things each of which has a quotient, one with the least. -/
theorem least_ratio {α : Type} {f g : α → Int} : ∀ {X : List α}, X ≠ [] → (∀ z ∈ X, 0 < g z) → ∃ z1, z1 ∈ X ∧ ∀ z ∈ X, f z1 * g z ≤ f z * g z1
  | [x], _, _ => ⟨x, by simp, fun z hz => by simp at hz; subst hz; exact Int.le_refl _⟩
  | x :: y :: X, _, hg => by
    obtain ⟨z1, h1, h2⟩ := least_ratio (f := f) (g := g) (X := y :: X) (by simp) (fun z hz => hg z (List.mem_cons_of_mem _ hz))
    have g1 := hg z1 (List.mem_cons_of_mem _ h1)
    have gx := hg x (by simp)
    by_cases hc : f x * g z1 ≤ f z1 * g x
    · refine ⟨x, by simp, fun z hz => ?_⟩
      rcases List.mem_cons.1 hz with rfl | hz
      · exact Int.le_refl _
      · have h3 := h2 z hz
        have gz := hg z (List.mem_cons_of_mem _ hz)
        have a1 : f x * g z1 * g z ≤ f z1 * g x * g z := Int.mul_le_mul_of_nonneg_right hc (Int.le_of_lt gz)
        have a2 : f z1 * g z * g x ≤ f z * g z1 * g x := Int.mul_le_mul_of_nonneg_right h3 (Int.le_of_lt gx)
        have a3 : g z1 * (f x * g z) ≤ g z1 * (f z * g x) := by
          have e1 : g z1 * (f x * g z) = f x * g z1 * g z := by grind
          have e2 : g z1 * (f z * g x) = f z * g z1 * g x := by grind
          have e3 : f z1 * g x * g z = f z1 * g z * g x := by grind
          omega
        exact Int.le_of_mul_le_mul_left a3 g1
    · refine ⟨z1, List.mem_cons_of_mem _ h1, fun z hz => ?_⟩
      rcases List.mem_cons.1 hz with rfl | hz
      · omega
      · exact h2 z hz

/-- From a direction on, along another one, to the first difference that stops it. -/
theorem ray {d : Nat} {Z : List (Nat → Int)} {c w : Nat → Int} (hc : ∀ z ∈ Z, dot d c z ≤ 0) (hw : ∀ z ∈ Z, dot d c z = 0 → dot d w z = 0) (hp : ∃ z, z ∈ Z ∧ 0 < dot d w z) :
    ∃ s r : Int, 0 < s ∧ 0 < r ∧ (∀ z ∈ Z, dot d (fun k => s * c k + r * w k) z ≤ 0) ∧ loose d Z (fun k => s * c k + r * w k) < loose d Z c := by
  obtain ⟨z0, hz0, hp0⟩ := hp
  obtain ⟨z1, h1, h2⟩ := least_ratio (f := fun z => - dot d c z) (g := fun z => dot d w z) (X := Z.filter fun z => decide (0 < dot d w z)) (by
      intro he
      have : z0 ∈ Z.filter fun z => decide (0 < dot d w z) := by simp [hz0, hp0]
      rw [he] at this; simp at this) (fun z hz => by simpa using (List.mem_filter.1 hz).2)
  have hz1 := (List.mem_filter.1 h1).1
  have hw1 : 0 < dot d w z1 := by simpa using (List.mem_filter.1 h1).2
  have hc1 : dot d c z1 < 0 := by
    have h3 := hc z1 hz1
    rcases Int.lt_or_eq_of_le h3 with h | h
    · exact h
    · have := hw z1 hz1 h; omega
  refine ⟨dot d w z1, - dot d c z1, hw1, by omega, fun z hz => ?_, loose_lt (z1 := z1) (fun z hz h0 => ?_) hz1 (by omega) ?_⟩
  · rw [dot_lc]
    have hcz := hc z hz
    by_cases hwz : 0 < dot d w z
    · have h3 : - dot d c z1 * dot d w z ≤ - dot d c z * dot d w z1 := h2 z (by simp [hz, hwz])
      have e1 : - dot d c z1 * dot d w z = -(dot d c z1 * dot d w z) := by grind
      have e2 : - dot d c z * dot d w z1 = -(dot d w z1 * dot d c z) := by grind
      omega
    · have a1 : dot d w z1 * dot d c z ≤ 0 := Int.mul_nonpos_of_nonneg_of_nonpos (Int.le_of_lt hw1) hcz
      have a2 : - dot d c z1 * dot d w z ≤ 0 := Int.mul_nonpos_of_nonneg_of_nonpos (by omega) (by omega)
      omega
  · rw [dot_lc, h0, hw z hz h0]; omega
  · rw [dot_lc]; grind

theorem dot_neg (d : Nat) (a x : Nat → Int) : dot d (fun k => - a k) x = - dot d a x := by
  unfold dot
  rw [← sumN_neg]
  exact sumN_congr fun i _ => by grind

/-- What is not above 0 with the sides' directions is so with every direction in which the point is greatest. -/
theorem cone {d : Nat} {Z : List (Nat → Int)} {v : Nat → Int} (hspan : ∀ c : Nat → Int, (∀ z ∈ Z, dot d c z = 0) → ∀ i, i < d → c i = 0)
    (hside : ∀ c : Nat → Int, (∃ i, i < d ∧ c i ≠ 0) → (∀ z ∈ Z, dot d c z ≤ 0) → (∀ u : Nat → Int, (∀ z ∈ Z, dot d c z = 0 → dot d u z = 0) → Par d u c) → dot d c v ≤ 0) :
    ∀ (n : Nat) (c : Nat → Int), loose d Z c ≤ n → (∀ z ∈ Z, dot d c z ≤ 0) → dot d c v ≤ 0 := by
  intro n
  induction n with
  | zero =>
    intro c hn hc
    have h0 : loose d Z c = 0 := by omega
    unfold loose at h0
    rw [List.countP_eq_zero] at h0
    exact Int.le_of_eq (dot_zero (hspan c fun z hz => by have := h0 z hz; simpa using this))
  | succ n ih =>
    intro c hn hc
    by_cases hall : ∀ z ∈ Z, dot d c z = 0
    · exact Int.le_of_eq (dot_zero (hspan c hall))
    · have : ∃ z0, z0 ∈ Z ∧ dot d c z0 ≠ 0 := Classical.byContradiction fun h => hall fun z hz => Classical.byContradiction fun hne => h ⟨z, hz, hne⟩
      obtain ⟨z0, hz0, hcz0⟩ := this
      have hcne : ∃ i, i < d ∧ c i ≠ 0 := Classical.byContradiction fun h => hcz0 (dot_zero fun i hi => Classical.byContradiction fun hne => h ⟨i, hi, hne⟩)
      by_cases hp : ∀ u : Nat → Int, (∀ z ∈ Z, dot d c z = 0 → dot d u z = 0) → Par d u c
      · exact hside c hcne hc hp
      · have : ∃ u : Nat → Int, (∀ z ∈ Z, dot d c z = 0 → dot d u z = 0) ∧ ¬ Par d u c := Classical.byContradiction fun h => hp fun u hu => Classical.byContradiction fun hne => h ⟨u, hu, hne⟩
        obtain ⟨u, hu, hnp⟩ := this
        have : ∃ i j, i < d ∧ j < d ∧ u i * c j ≠ u j * c i := Classical.byContradiction fun h => hnp fun i j hi hj => Classical.byContradiction fun hne => h ⟨i, j, hi, hj, hne⟩
        obtain ⟨i, j, hi, hj, hne⟩ := this
        -- a direction that is 0 with all that c is, and with one more
        obtain ⟨w, hwdef⟩ : ∃ w : Nat → Int, w = fun k => dot d c z0 * u k + (- dot d u z0) * c k := ⟨_, rfl⟩
        have hwz : ∀ z, dot d w z = dot d c z0 * dot d u z + (- dot d u z0) * dot d c z := fun z => by rw [hwdef, dot_lc]
        have hw0 : dot d w z0 = 0 := by rw [hwz]; grind
        have hwt : ∀ z ∈ Z, dot d c z = 0 → dot d w z = 0 := fun z hz h0 => by rw [hwz, hu z hz h0, h0]; omega
        have hwn : ∃ z, z ∈ Z ∧ dot d w z ≠ 0 := by
          refine Classical.byContradiction fun h => ?_
          have hz := hspan w fun z hz => Classical.byContradiction fun hne => h ⟨z, hz, hne⟩
          have e1 := hz i hi
          have e2 := hz j hj
          rw [hwdef] at e1 e2
          simp only at e1 e2
          have e3 : dot d c z0 * (u i * c j - u j * c i) = 0 := by
            have : (dot d c z0 * u i + - dot d u z0 * c i) * c j - (dot d c z0 * u j + - dot d u z0 * c j) * c i = 0 := by rw [e1, e2]; omega
            grind
          rcases Int.mul_eq_zero.1 e3 with h | h
          · exact hcz0 h
          · omega
        have more : ∀ e : Nat → Int, (∀ z ∈ Z, dot d c z = 0 → dot d e z = 0) → (∀ z ∈ Z, dot d e z ≤ 0) → dot d e z0 = 0 → dot d e v ≤ 0 := fun e h1 h2 h3 =>
          ih e (by have := loose_lt h1 hz0 hcz0 h3; omega) h2
        have up : (∃ z, z ∈ Z ∧ 0 < dot d w z) → ∃ s r : Int, 0 < s ∧ 0 < r ∧ s * dot d c v + r * dot d w v ≤ 0 := by
          intro h
          obtain ⟨s, r, hs, hr, h1, h2⟩ := ray hc hwt h
          exact ⟨s, r, hs, hr, by rw [← dot_lc]; exact ih _ (by omega) h1⟩
        have dn : (∃ z, z ∈ Z ∧ dot d w z < 0) → ∃ s r : Int, 0 < s ∧ 0 < r ∧ s * dot d c v - r * dot d w v ≤ 0 := by
          rintro ⟨z, hz, hlt⟩
          obtain ⟨s, r, hs, hr, h1, h2⟩ := ray (w := fun k => - w k) hc (fun z hz h0 => by rw [dot_neg, hwt z hz h0]; rfl) ⟨z, hz, by rw [dot_neg]; omega⟩
          have h3 := ih _ (by omega) h1
          rw [dot_lc, dot_neg] at h3
          exact ⟨s, r, hs, hr, by rw [Int.mul_neg] at h3; omega⟩
        have fin : ∀ {s x : Int}, 0 < s → s * x ≤ 0 → x ≤ 0 := fun {s x} hs h => by
          rcases Int.lt_or_le 0 x with h1 | h1
          · have := Int.mul_pos hs h1; omega
          · exact h1
        by_cases hup : ∃ z, z ∈ Z ∧ 0 < dot d w z
        · obtain ⟨s, r, hs, hr, h1⟩ := up hup
          by_cases hdn : ∃ z, z ∈ Z ∧ dot d w z < 0
          · obtain ⟨s', r', hs', hr', h2⟩ := dn hdn
            have h3 : (s * r' + s' * r) * dot d c v ≤ 0 := by
              have e1 : r' * (s * dot d c v + r * dot d w v) ≤ 0 := Int.mul_nonpos_of_nonneg_of_nonpos (Int.le_of_lt hr') h1
              have e2 : r * (s' * dot d c v - r' * dot d w v) ≤ 0 := Int.mul_nonpos_of_nonneg_of_nonpos (Int.le_of_lt hr) h2
              have e3 : (s * r' + s' * r) * dot d c v = r' * (s * dot d c v + r * dot d w v) + r * (s' * dot d c v - r' * dot d w v) := by grind
              omega
            exact fin (by have := Int.mul_pos hs hr'; have := Int.mul_pos hs' hr; omega) h3
          · have h2 : dot d (fun k => - w k) v ≤ 0 := more _ (fun z hz h0 => by rw [dot_neg, hwt z hz h0]; rfl) (fun z hz => by
              rw [dot_neg]
              rcases Int.lt_or_le (dot d w z) 0 with h | h
              · exact absurd ⟨z, hz, h⟩ hdn
              · omega) (by rw [dot_neg, hw0]; rfl)
            rw [dot_neg] at h2
            have h4 : 0 ≤ r * dot d w v := Int.mul_nonneg (Int.le_of_lt hr) (by omega)
            exact fin hs (by omega)
        · have h2 : dot d w v ≤ 0 := more w hwt (fun z hz => by
            rcases Int.lt_or_le 0 (dot d w z) with h | h
            · exact absurd ⟨z, hz, h⟩ hup
            · exact h) hw0
          obtain ⟨z, hz, hzn⟩ := hwn
          obtain ⟨s', r', hs', hr', h3⟩ := dn ⟨z, hz, by
            rcases Int.lt_or_le 0 (dot d w z) with h | h
            · exact absurd ⟨z, hz, h⟩ hup
            · omega⟩
          have h4 : r' * dot d w v ≤ 0 := Int.mul_nonpos_of_nonneg_of_nonpos (Int.le_of_lt hr') h2
          exact fin hs' (by omega)

end Go.Proofs.YtilblfoapjnmaaaGreatDoor.Lin
