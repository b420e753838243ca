/- Plain facts on determinants: rows that hang on others, elimination, how many vectors can be free. -/
import Derived.Test.YtfbgcfbafnmahaaLin
namespace Go.Proofs.Ytfbgcfbafnmahaa.Lin

theorem od_congr {n : Nat} {A B : List (Nat → Int)} (hl : A.length = B.length) (h : ∀ i, i < A.length → ∀ k, k < n → (A.getD i (fun _ => 0)) k = (B.getD i (fun _ => 0)) k) (U : Nat → Bool) : od n A U = od n B U := by
  induction A generalizing B U with
  | nil => cases B with
    | nil => rfl
    | cons b B => simp at hl
  | cons a A ih => cases B with
    | nil => simp at hl
    | cons b B =>
      simp only [od]
      refine sumN_congr fun k hk => ?_
      have h0 := h 0 (by simp) k hk
      simp only [List.getD_cons_zero] at h0
      rw [h0, ih (by simpa using hl) (fun i hi k hk => by have := h (i + 1) (by simpa using hi) k hk; simpa using this)]

theorem od_swap (n : Nat) (A B : List (Nat → Int)) (u v : Nat → Int) (U : Nat → Bool) : od n (A ++ u :: v :: B) U = - od n (A ++ v :: u :: B) U := by
  have h := od_equal n A B (lc 1 u 1 v) U
  have e1 := od_lin n A (lc 1 u 1 v :: B) 1 1 u v U
  have e2 := od_lin n (A ++ [u]) B 1 1 u v U
  have e3 := od_lin n (A ++ [v]) B 1 1 u v U
  simp only [List.append_assoc, List.cons_append, List.nil_append] at e2 e3
  have z1 := od_equal n A B u U
  have z2 := od_equal n A B v U
  rw [h] at e1
  rw [e2, e3, z1, z2] at e1
  omega

theorem od_two (n : Nat) (A B C : List (Nat → Int)) (u : Nat → Int) (U : Nat → Bool) : od n (A ++ u :: (B ++ u :: C)) U = 0 := by
  induction B generalizing A with
  | nil => exact od_equal n A C u U
  | cons b B ih =>
    rw [List.cons_append, od_swap]
    have := ih (A ++ [b])
    simp only [List.append_assoc, List.cons_append, List.nil_append] at this
    rw [this]; rfl

/-- Two rows change places. -/
theorem od_change (n : Nat) (A B C : List (Nat → Int)) (u v : Nat → Int) (U : Nat → Bool) : od n (A ++ u :: (B ++ v :: C)) U = - od n (A ++ v :: (B ++ u :: C)) U := by
  have h := od_two n A B C (lc 1 u 1 v) U
  have e1 := od_lin n A (B ++ lc 1 u 1 v :: C) 1 1 u v U
  have e2 := od_lin n (A ++ u :: B) C 1 1 u v U
  have e3 := od_lin n (A ++ v :: B) C 1 1 u v U
  simp only [List.append_assoc, List.cons_append] at e2 e3
  rw [h, e2, e3, od_two, od_two] at e1
  omega

/-- A sum of rows, each so many times. -/
def comb (m : Nat) (c : Nat → Int) (L : Nat → Nat → Int) : Nat → Int := fun k => sumN m fun i => c i * L i k

def row (L : List (Nat → Int)) (i : Nat) : Nat → Int := L.getD i fun _ => 0

theorem set_split {L : List (Nat → Int)} {p : Nat} (hp : p < L.length) (x : Nat → Int) : L.set p x = L.take p ++ x :: L.drop (p + 1) := by
  rw [List.set_eq_take_append_cons_drop, if_pos hp]

theorem od_set_zero {n : Nat} {L : List (Nat → Int)} {p : Nat} (hp : p < L.length) (U : Nat → Bool) {x : Nat → Int} (hx : ∀ k, k < n → x k = 0) : od n (L.set p x) U = 0 := by
  rw [set_split hp]
  have e := od_lin n (L.take p) (L.drop (p + 1)) 0 0 x x U
  simp only [Int.zero_mul, Int.add_zero] at e
  rw [← e]
  refine od_congr (by simp) (fun i hi k hk => ?_) U
  by_cases h : i = p
  · subst h
    have hl : (L.take i).length = i := by simp; omega
    have q : ∀ y : Nat → Int, (L.take i ++ y :: L.drop (i + 1)).getD i (fun _ => 0) = y := by
      intro y; simp only [List.getD_eq_getElem?_getD]; rw [List.getElem?_append_right (by omega)]; simp [hl]
    rw [q, q, hx k hk]; simp [lc]
  · have q : ∀ y z : Nat → Int, (L.take p ++ y :: L.drop (p + 1)).getD i (fun _ => 0) = (L.take p ++ z :: L.drop (p + 1)).getD i (fun _ => 0) := by
      intro y z
      rw [← set_split hp, ← set_split hp]
      simp only [List.getD_eq_getElem?_getD]
      rw [List.getElem?_set_ne (by omega), List.getElem?_set_ne (by omega)]
    rw [q x (lc 0 x 0 x)]

theorem od_set_lin {n : Nat} {L : List (Nat → Int)} {p : Nat} (hp : p < L.length) (U : Nat → Bool) (a b : Int) (u v : Nat → Int) :
    od n (L.set p (lc a u b v)) U = a * od n (L.set p u) U + b * od n (L.set p v) U := by
  rw [set_split hp, set_split hp, set_split hp]; exact od_lin n _ _ a b u v U

theorem split_two {L : List (Nat → Int)} {i p : Nat} (hip : i < p) (hp : p < L.length) : ∃ A B C x y, L = A ++ x :: (B ++ y :: C) ∧ A.length = i ∧ i + 1 + B.length = p := by
  refine ⟨L.take i, (L.drop (i + 1)).take (p - (i + 1)), L.drop (p + 1), L[i], L[p], ?_, by simp; omega, by simp; omega⟩
  have h1 : L = L.take i ++ L[i] :: L.drop (i + 1) := by rw [List.getElem_cons_drop, List.take_append_drop]
  have h2 : L.drop (i + 1) = (L.drop (i + 1)).take (p - (i + 1)) ++ L[p] :: L.drop (p + 1) := by
    have q := (List.take_append_drop (p - (i + 1)) (L.drop (i + 1))).symm
    rw [List.drop_drop, show i + 1 + (p - (i + 1)) = p by omega] at q
    rw [← List.getElem_cons_drop (h := hp)] at q
    exact q
  rw [← h2]; exact h1

theorem set_at {A B : List (Nat → Int)} {x y : Nat → Int} {p : Nat} (h : A.length = p) : (A ++ x :: B).set p y = A ++ y :: B := by
  subst h; simp

theorem od_set_other {n : Nat} {L : List (Nat → Int)} {p i : Nat} (hp : p < L.length) (hi : i < L.length) (hne : i ≠ p) (U : Nat → Bool) : od n (L.set p (row L i)) U = 0 := by
  by_cases hip : i < p
  · obtain ⟨A, B, C, x, y, rfl, h1, h2⟩ := split_two hip hp
    have hr : row (A ++ x :: (B ++ y :: C)) i = x := by subst h1; simp [row]
    rw [hr]
    have e : A ++ x :: (B ++ y :: C) = (A ++ x :: B) ++ y :: C := by simp
    rw [e, set_at (by simp; omega)]
    have := od_two n A B C x U
    simpa using this
  · obtain ⟨A, B, C, x, y, rfl, h1, h2⟩ := split_two (show p < i by omega) hi
    have hr : row (A ++ x :: (B ++ y :: C)) i = y := by
      have e : A ++ x :: (B ++ y :: C) = (A ++ x :: B) ++ y :: C := by simp
      rw [e]; unfold row; simp only [List.getD_eq_getElem?_getD]
      rw [List.getElem?_append_right (by simp; omega)]
      simp [show i - (A.length + (B.length + 1)) = 0 by omega]
    rw [hr, set_at h1]
    exact od_two n A B C y U

theorem set_row {L : List (Nat → Int)} {p : Nat} (hp : p < L.length) : L.set p (row L p) = L := by
  have : row L p = L[p] := by simp [row, hp]
  rw [this, List.set_getElem_self]

theorem od_set_comb {n m : Nat} {L : List (Nat → Int)} {p : Nat} (hp : p < L.length) (hm : m ≤ L.length) (c : Nat → Int) (U : Nat → Bool) :
    od n (L.set p (comb m c (row L))) U = (if p < m then c p else 0) * od n L U := by
  induction m with
  | zero => rw [od_set_zero hp U (x := comb 0 c (row L)) (fun k _ => rfl)]; simp
  | succ m ih =>
    have e : comb (m + 1) c (row L) = lc 1 (comb m c (row L)) (c m) (row L m) := by
      funext k; simp [comb, lc, sumN]
    rw [e, od_set_lin hp, ih (by omega)]
    by_cases h : m = p
    · subst h; rw [set_row hp]; simp
    · rw [od_set_other hp (by omega) h]
      by_cases h2 : p < m
      · simp [h2, show p < m + 1 by omega]
      · simp [h2, show ¬ p < m + 1 by omega]

/-- Rows that hang on each other have determinant 0. -/
theorem od_dep {n : Nat} {L : List (Nat → Int)} {c : Nat → Int} {p : Nat} (hp : p < L.length) (hc : c p ≠ 0) (h : ∀ k, k < n → comb L.length c (row L) k = 0) (U : Nat → Bool) : od n L U = 0 := by
  have e := od_set_comb (n := n) hp (Nat.le_refl _) c U
  rw [od_set_zero hp U h, if_pos hp] at e
  rcases Int.mul_eq_zero.1 e.symm with h0 | h0
  · exact absurd h0 hc
  · exact h0

/-- How many columns are not used. -/
def cu : Nat → (Nat → Bool) → Nat
  | 0, _ => 0
  | n + 1, U => cu n U + if U n then 0 else 1

theorem cu_ins {n : Nat} {U : Nat → Bool} {k : Nat} (hk : k < n) (hU : U k = false) : cu n (ins U k) + 1 = cu n U := by
  induction n with
  | zero => omega
  | succ n ih =>
    simp only [cu]
    by_cases e : k = n
    · subst e
      have hs : ∀ m, m ≤ k → cu m (ins U k) = cu m U := by
        intro m hm
        induction m with
        | zero => rfl
        | succ m im =>
          have hi : ins U k m = U m := by unfold ins; rw [if_neg (by omega)]
          simp only [cu]; rw [im (by omega), hi]
      rw [hs k (Nat.le_refl _), hU]
      simp [ins]
    · have hi : ins U k n = U n := by unfold ins; rw [if_neg (by omega)]
      rw [hi]
      have := ih (by omega)
      omega

theorem cu_pos {n : Nat} {U : Nat → Bool} {k : Nat} (hk : k < n) (hU : U k = false) : 0 < cu n U := by
  have := cu_ins hk hU; omega

theorem cu_none (n : Nat) : cu n (fun _ => false) = n := by
  induction n with
  | zero => rfl
  | succ n ih => simp [cu, ih]

/-- A column of noughts that must be used. -/
theorem od_col {n : Nat} {q : Nat} (hq : q < n) (L : List (Nat → Int)) (U : Nat → Bool) (hU : U q = false) (hL : ∀ r ∈ L, r q = 0) (hc : cu n U ≤ L.length) : od n L U = 0 := by
  induction L generalizing U with
  | nil => have := cu_pos hq hU; simp at hc; omega
  | cons r L ih =>
    simp only [od]
    refine sumN_zero fun k hk => ?_
    cases hk' : U k
    · simp only [Bool.false_eq_true, if_false]
      by_cases e : k = q
      · subst e; rw [hL r (by simp)]; simp
      · rw [ih (ins U k) (by unfold ins; rw [if_neg (fun h => e h.symm)]; exact hU) (fun r hr => hL r (by simp [hr])) (by have := cu_ins hk hk'; simp at hc; omega)]
        simp
    · simp

theorem sg_last {n : Nat} (U : Nat → Bool) {k : Nat} (hk : n ≤ k + 1) : sg n U k = 1 := by
  induction n with
  | zero => rfl
  | succ n ih => simp only [sg]; rw [if_neg (by omega), ih (by omega)]

theorem sg_free {n : Nat} {U : Nat → Bool} (hU : U n = false) (k : Nat) : sg (n + 1) U k = sg n U k := by
  simp only [sg, hU]; simp

/-- The last row has just its last number. -/
theorem od_end {n : Nat} (L : List (Nat → Int)) (v : Nat → Int) (hv : ∀ k, k < n → v k = 0) (U : Nat → Bool) :
    od (n + 1) (L ++ [v]) U = if U n then 0 else od n L U * v n := by
  induction L generalizing U with
  | nil =>
    simp only [List.nil_append, od, sumN]
    rw [sumN_zero (fun k hk => by rw [hv k hk]; simp)]
    rw [sg_last U (by omega)]
    cases U n <;> simp
  | cons r L ih =>
    simp only [List.cons_append, od]
    cases hU : U n
    · simp only [Bool.false_eq_true, if_false]
      rw [sumN, ih, hU]
      simp only [Bool.false_eq_true, if_false]
      rw [if_pos (by simp [ins]), Int.mul_zero, Int.add_zero, ← sumN_mul_right]
      refine sumN_congr fun k hk => ?_
      cases U k
      · simp only [Bool.false_eq_true, if_false]
        rw [ih, if_neg (by unfold ins; rw [if_neg (by omega), hU]; simp), sg_free hU]
        simp only [Int.mul_assoc]
      · simp
    · simp only [if_true]
      refine sumN_zero fun k hk => ?_
      cases hk' : U k
      · rw [ih]
        have : ins U k n = true := by unfold ins; by_cases e : n = k <;> simp [e, hU]
        rw [this]; simp
      · simp

/-- Rising columns below c. -/
def Rising (m c : Nat) (C : Nat → Nat) : Prop := (∀ i j, i < j → j < m → C i < C j) ∧ ∀ i, i < m → C i < c

def cols (L : List (Nat → Int)) (C : Nat → Nat) : List (Nat → Int) := L.map fun r => fun k => r (C k)

/-- Each place of a list without its p-th. -/
def skp (p i : Nat) : Nat := if i < p then i else i + 1

theorem erase_row {L : List (Nat → Int)} {p i : Nat} : row (L.eraseIdx p) i = row L (skp p i) := by
  unfold row skp
  simp only [List.getD_eq_getElem?_getD]
  by_cases h : i < p
  · rw [List.getElem?_eraseIdx_of_lt h, if_pos h]
  · rw [List.getElem?_eraseIdx_of_ge (by omega), if_neg h]

theorem sumN_skp {n : Nat} {f : Nat → Int} {p : Nat} (hp : p ≤ n) : sumN (n + 1) f = sumN n (fun i => f (skp p i)) + f p := by
  induction n with
  | zero => have : p = 0 := by omega
            subst this; simp [sumN]
  | succ n ih =>
    by_cases e : p = n + 1
    · subst e
      rw [sumN]
      congr 1
      exact sumN_congr fun i hi => by unfold skp; rw [if_pos (by omega)]
    · rw [sumN, ih (by omega), sumN]
      have : skp p n = n + 1 := by unfold skp; rw [if_neg (by omega)]
      rw [this]; omega

end Go.Proofs.Ytfbgcfbafnmahaa.Lin
