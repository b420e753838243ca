/- Even squares and their parts, pure. -/
import Derived.Test.YtekifompoefhbaaTpA
namespace Go.Proofs.Ytekifompoefhbaa

def rowN (c : Nat) (r : List Int) : Int := withE c 0 10000 r

def rowsN (c : Nat) : List (List Int) → Int
  | [] => 0
  | r :: rs => if rowN c r = 0 then rowsN c rs else rowN c r

theorem rowsN_hit {c : Nat} : ∀ {m : List (List Int)} {k : Nat}, k < m.length → (∀ i, i < k → rowN c (m.getD i []) = 0) → rowN c (m.getD k []) ≠ 0 → rowsN c m = rowN c (m.getD k [])
  | r :: rs, 0, _, _, h => by
    simp only [List.getD_cons_zero] at h
    simp [rowsN, h]
  | r :: rs, k + 1, hk, h0, h => by
    have h1 := h0 0 (by omega)
    simp only [List.getD_cons_zero] at h1
    simp only [List.getD_cons_succ] at h
    simp only [rowsN, h1, if_true, List.getD_cons_succ]
    exact rowsN_hit (by simpa using hk) (fun i hi => by have := h0 (i + 1) (by omega); simpa using this) h

theorem rowsN_all {c : Nat} : ∀ {m : List (List Int)}, (∀ i, i < m.length → rowN c (m.getD i []) = 0) → rowsN c m = 0
  | [], _ => rfl
  | r :: rs, h => by
    have h1 := h 0 (by simp)
    simp only [List.getD_cons_zero] at h1
    simp only [rowsN, h1, if_true]
    exact rowsN_all fun i hi => by have := h (i + 1) (by simpa using hi); simpa using this

theorem rowsN_zero {c : Nat} : ∀ {m : List (List Int)}, rowsN c m = 0 → ∀ r ∈ m, rowN c r = 0
  | [], _, _, hr => by simp at hr
  | r :: rs, h, x, hx => by
    simp only [rowsN] at h
    by_cases h1 : rowN c r = 0
    · rw [if_pos h1] at h
      rcases List.mem_cons.1 hx with rfl | hx
      · exact h1
      · exact rowsN_zero h x hx
    · rw [if_neg h1] at h; exact absurd h h1

/-- A square of numbers from 0 to 10,000. -/
structure Sq0 (m : List (List Int)) : Prop where
  n1 : 1 ≤ m.length
  n6 : m.length ≤ 6
  len : ∀ i, i < m.length → (m.getD i []).length = m.length
  bd : ∀ i j, 0 ≤ ent m i j ∧ ent m i j ≤ 10000

theorem ent_bd {m : List (List Int)} {lo hi : Int} (h0 : lo ≤ 0 ∧ 0 ≤ hi) (h : ∀ r ∈ m, ∀ z ∈ r, lo ≤ z ∧ z ≤ hi) (i j : Nat) : lo ≤ ent m i j ∧ ent m i j ≤ hi := by
  unfold ent
  by_cases hi : i < m.length
  · have e : m.getD i [] = m[i] := by simp [hi]
    rw [e]
    by_cases hj : j < m[i].length
    · have e2 : m[i].getD j 0 = m[i][j] := by simp [hj]
      rw [e2]
      exact h _ (List.getElem_mem _) _ (List.getElem_mem _)
    · simp [hj, h0]
  · simp [hi, h0]

def cntE (m : List (List Int)) : Int := if m.length < 1 ∨ 6 < m.length then 2 else rowsN m.length m

theorem sq0_ok {m : List (List Int)} (h : cntE m = 0) : Sq0 m := by
  unfold cntE at h
  by_cases h0 : m.length < 1 ∨ 6 < m.length
  · rw [if_pos h0] at h; simp at h
  · rw [if_neg h0] at h
    have hz := rowsN_zero h
    have hf : ∀ r ∈ m, r.length = m.length ∧ r.any (outB 0 10000) = false := by
      intro r hr
      have := hz r hr
      unfold rowN withE at this
      by_cases h1 : r.length ≠ m.length
      · rw [if_pos h1] at this; simp at this
      · rw [if_neg h1] at this
        refine ⟨by omega, ?_⟩
        cases h2 : r.any (outB 0 10000)
        · rfl
        · rw [h2] at this; simp at this
    refine ⟨by omega, by omega, fun i hi => ?_, ent_bd (by omega) fun r hr z hz => ?_⟩
    · have e : m.getD i [] = m[i] := by simp [hi]
      rw [e]
      exact (hf _ (List.getElem_mem _)).1
    · have := List.any_eq_false.1 (hf r hr).2 z hz
      simp only [outB, Bool.or_eq_true, decide_eq_true_eq, not_or] at this
      omega

/-- Sums of rows and of columns. -/
def rsm (m : List (List Int)) (i : Nat) : Int := sumF (fun j => ent m i j) m.length
def csm (m : List (List Int)) (j : Nat) : Int := sumF (fun i => ent m i j) m.length

def evenB (m : List (List Int)) : Bool := (List.range m.length).all fun i => decide (csm m i = rsm m 0) && decide (rsm m i = rsm m 0)

def evE (m : List (List Int)) : Int := if cntE m ≠ 0 then cntE m else if evenB m then 0 else 3

theorem sumF_bd {f : Nat → Int} {lo hi : Int} (h : ∀ i, lo ≤ f i ∧ f i ≤ hi) : ∀ k : Nat, lo * (k : Int) ≤ sumF f k ∧ sumF f k ≤ hi * (k : Int)
  | 0 => by simp [sumF]
  | k + 1 => by
    have ih := sumF_bd h k
    have h1 := h k
    simp only [sumF]
    have e1 : lo * ((k + 1 : Nat) : Int) = lo * (k : Int) + lo := by rw [Int.natCast_add, Int.mul_add]; simp
    have e2 : hi * ((k + 1 : Nat) : Int) = hi * (k : Int) + hi := by rw [Int.natCast_add, Int.mul_add]; simp
    omega

theorem row_sum (V : List Int) : V.sum = sumF (fun j => V.getD j 0) V.length := by
  rw [sumF_list]
  congr 1
  refine List.ext_getElem (by simp) fun i h1 h2 => ?_
  simp [h1]

def maxTo (zs : List Int) : Nat → Int
  | 0 => zs.getD 0 0
  | k + 1 => if maxTo zs k < zs.getD (k + 1) 0 then zs.getD (k + 1) 0 else maxTo zs k

def maxL (zs : List Int) : Int := maxTo zs (zs.length - 1)

theorem maxTo_ge (zs : List Int) : ∀ k j, j ≤ k → zs.getD j 0 ≤ maxTo zs k
  | 0, j, h => by rw [show j = 0 by omega]; exact Int.le_refl _
  | k + 1, j, h => by
    simp only [maxTo]
    by_cases e : j = k + 1
    · subst e; split <;> omega
    · have := maxTo_ge zs k j (by omega)
      split <;> omega

theorem maxTo_mem (zs : List Int) : ∀ k, ∃ j, j ≤ k ∧ zs.getD j 0 = maxTo zs k
  | 0 => ⟨0, Nat.le_refl _, rfl⟩
  | k + 1 => by
    simp only [maxTo]
    split
    · exact ⟨k + 1, Nat.le_refl _, rfl⟩
    · obtain ⟨j, h1, h2⟩ := maxTo_mem zs k
      exact ⟨j, by omega, h2⟩

theorem maxL_ge {zs : List Int} {j : Nat} (h : j < zs.length) : zs.getD j 0 ≤ maxL zs := maxTo_ge zs _ j (by omega)
theorem maxL_mem {zs : List Int} (h : 0 < zs.length) : ∃ j, j < zs.length ∧ zs.getD j 0 = maxL zs := by
  obtain ⟨j, h1, h2⟩ := maxTo_mem zs (zs.length - 1)
  exact ⟨j, by omega, h2⟩

/-- All sums: of rows, then of columns. -/
def evS (m : List (List Int)) : List Int := (List.range (2 * m.length)).map fun q => if q < m.length then rsm m q else csm m (q - m.length)

theorem evS_len (m : List (List Int)) : (evS m).length = 2 * m.length := by simp [evS]
theorem evS_at {m : List (List Int)} {q : Nat} (h : q < 2 * m.length) : (evS m).getD q 0 = if q < m.length then rsm m q else csm m (q - m.length) := by
  rw [List.getD_eq_getElem?_getD]
  simp [evS, h]

theorem even_iff {m : List (List Int)} (h1 : 1 ≤ m.length) : (minL (evS m) == maxL (evS m)) = evenB m := by
  rw [Bool.eq_iff_iff, beq_iff_eq]
  have hl := evS_len m
  constructor
  · intro h
    have all : ∀ q, q < 2 * m.length → (evS m).getD q 0 = maxL (evS m) := fun q hq => by
      have a := minL_le (zs := evS m) (j := q) (by omega)
      have b := maxL_ge (zs := evS m) (j := q) (by omega)
      omega
    unfold evenB
    rw [List.all_eq_true]
    intro i hi
    have hi := List.mem_range.1 hi
    have a := all i (by omega)
    have b := all (m.length + i) (by omega)
    have c := all 0 (by omega)
    rw [evS_at (by omega), if_pos hi] at a
    rw [evS_at (by omega), if_neg (by omega), show m.length + i - m.length = i by omega] at b
    rw [evS_at (by omega), if_pos (by omega)] at c
    simp only [Bool.and_eq_true, decide_eq_true_eq]
    omega
  · intro h
    unfold evenB at h
    rw [List.all_eq_true] at h
    have all : ∀ q, q < 2 * m.length → (evS m).getD q 0 = rsm m 0 := fun q hq => by
      rw [evS_at hq]
      by_cases e : q < m.length
      · have := h q (List.mem_range.2 e)
        simp only [Bool.and_eq_true, decide_eq_true_eq] at this
        rw [if_pos e]; exact this.2
      · have := h (q - m.length) (List.mem_range.2 (by omega))
        simp only [Bool.and_eq_true, decide_eq_true_eq] at this
        rw [if_neg e]; exact this.1
    obtain ⟨j, a1, a2⟩ := minL_mem (zs := evS m) (by omega)
    obtain ⟨k, b1, b2⟩ := maxL_mem (zs := evS m) (by omega)
    rw [← a2, ← b2, all j (by omega), all k (by omega)]

/-- Sums so far: rows ahead of i are whole, row i as far as column k. -/
def evF (m : List (List Int)) (i k q : Nat) : Int :=
  if q < m.length then (if q < i then rsm m q else if q = i then sumF (fun j => ent m i j) k else 0)
  else sumF (fun a => ent m a (q - m.length)) i + if q - m.length < k then ent m i (q - m.length) else 0

theorem evF_next {m : List (List Int)} {i : Nat} (hi : i < m.length) (q : Nat) (hq : q < 2 * m.length) : evF m i m.length q = evF m (i + 1) 0 q := by
  unfold evF
  by_cases e : q < m.length
  · simp only [e, if_true]
    by_cases e2 : q = i
    · subst e2; simp [rsm]
    · by_cases e3 : q < i
      · simp [e3, show q < i + 1 by omega]
      · simp [e3, e2, show ¬ q < i + 1 by omega, sumF]
  · simp only [e, if_false]
    rw [if_pos (by omega), if_neg (by omega)]
    simp [sumF]

theorem evF_step {m : List (List Int)} {i k : Nat} (hi : i < m.length) (q : Nat) : evF m i (k + 1) q = if q = m.length + k then evF m i k q + ent m i k else if q = i then evF m i k q + ent m i k else evF m i k q := by
  unfold evF
  by_cases e : q < m.length
  · rw [if_neg (show ¬ q = m.length + k by omega)]
    simp only [e, if_true]
    by_cases e2 : q = i
    · subst e2
      simp [sumF]
    · simp [e2]
  · simp only [e, if_false]
    by_cases e2 : q = m.length + k
    · rw [if_pos e2]
      rw [if_pos (by omega), if_neg (by omega), show q - m.length = k by omega]
      omega
    · rw [if_neg e2, if_neg (show ¬ q = i by omega)]
      by_cases e3 : q - m.length < k
      · rw [if_pos (by omega), if_pos e3]
      · rw [if_neg (by omega), if_neg e3]

theorem evF_end {m : List (List Int)} {q : Nat} (hq : q < 2 * m.length) : evF m m.length 0 q = (evS m).getD q 0 := by
  rw [evS_at hq]
  unfold evF
  by_cases e : q < m.length
  · simp [e]
  · simp [e, csm]

theorem evF_zero (m : List (List Int)) (q : Nat) : evF m 0 0 q = 0 := by
  unfold evF
  by_cases e : q < m.length
  · simp only [e, if_true]
    by_cases e2 : q = 0 <;> simp [e2, sumF]
  · simp [e, sumF]

theorem evF_bd {m : List (List Int)} (h : Sq0 m) {i k : Nat} (hi : i ≤ m.length) (hk : k ≤ m.length) (q : Nat) : 0 ≤ evF m i k q ∧ evF m i k q ≤ 100000 := by
  have n6 := h.n6
  have b := h.bd
  unfold evF rsm
  by_cases e : q < m.length
  · simp only [e, if_true]
    by_cases e2 : q < i
    · have := sumF_bd (f := fun j => ent m q j) (lo := 0) (hi := 10000) (fun j => b q j) m.length
      simp only [e2, if_true]
      omega
    · simp only [e2, if_false]
      by_cases e3 : q = i
      · have := sumF_bd (f := fun j => ent m i j) (lo := 0) (hi := 10000) (fun j => b i j) k
        simp only [e3, if_true]
        omega
      · simp [e3]
  · simp only [e, if_false]
    have := sumF_bd (f := fun a => ent m a (q - m.length)) (lo := 0) (hi := 10000) (fun a => b a _) i
    have b2 := b i (q - m.length)
    split <;> omega

/-! Parts -/

/-- The least of a choice's numbers, as far as row k. -/
def roomTo (R : List (List Int)) (o : List Int) : Nat → Int
  | 0 => ent R 0 (o.getD 0 0).toNat
  | k + 1 => if ent R k (o.getD k 0).toNat < roomTo R o k then ent R k (o.getD k 0).toNat else roomTo R o k

def setM (R : List (List Int)) (i j : Nat) (z : Int) : List (List Int) := R.set i ((R.getD i []).set j z)

/-- So often taken, as far as row k. -/
def takeTo (R : List (List Int)) (o : List Int) (z : Int) : Nat → List (List Int)
  | 0 => R
  | k + 1 => setM (takeTo R o z k) k (o.getD k 0).toNat (ent (takeTo R o z k) k (o.getD k 0).toNat - z)

structure PSt where
  rest : List (List Int)
  ords : List (List Int)
  many : List Int

def pStep (n : Nat) (s : PSt) (o : List Int) : PSt :=
  if 0 < roomTo s.rest o n then ⟨takeTo s.rest o (roomTo s.rest o n) n, s.ords ++ [o], s.many ++ [roomTo s.rest o n]⟩ else s

def pFold (n : Nat) (m : List (List Int)) (l : List (List Int)) : PSt := l.foldl (pStep n) ⟨m, [], []⟩

theorem pFold_snoc (n : Nat) (m : List (List Int)) (l : List (List Int)) (o : List Int) : pFold n m (l ++ [o]) = pStep n (pFold n m l) o := by simp [pFold]

theorem setM_len (R : List (List Int)) (i j : Nat) (z : Int) : (setM R i j z).length = R.length := by simp [setM]

theorem setM_row {R : List (List Int)} {i j a : Nat} {z : Int} : ((setM R i j z).getD a []).length = (R.getD a []).length := by
  unfold setM
  by_cases e : a = i
  · subst e
    by_cases h : a < R.length
    · simp [List.getD_eq_getElem?_getD, h]
    · simp [List.getD_eq_getElem?_getD, h]
  · simp [List.getD_eq_getElem?_getD, List.getElem?_set_ne (Ne.symm e)]

theorem setM_ent {R : List (List Int)} {i j a b : Nat} {z : Int} (hi : i < R.length) (hj : j < (R.getD i []).length) : ent (setM R i j z) a b = if a = i ∧ b = j then z else ent R a b := by
  unfold setM ent
  by_cases e : a = i
  · subst e
    have e1 : (R.set a ((R.getD a []).set j z)).getD a [] = (R.getD a []).set j z := by simp [List.getD_eq_getElem?_getD, hi]
    rw [e1]
    by_cases e2 : b = j
    · subst e2; simp [List.getD_eq_getElem?_getD] at hj ⊢; simp [hj]
    · rw [if_neg (by omega)]
      rw [List.getD_eq_getElem?_getD, List.getElem?_set_ne (Ne.symm e2), ← List.getD_eq_getElem?_getD]
  · rw [if_neg (by omega)]
    have e1 : (R.set i ((R.getD i []).set j z)).getD a [] = R.getD a [] := by simp [List.getD_eq_getElem?_getD, List.getElem?_set_ne (Ne.symm e)]
    rw [e1]

theorem roomTo_le {R : List (List Int)} {o : List Int} : ∀ {n k : Nat}, k < n → roomTo R o n ≤ ent R k (o.getD k 0).toNat
  | n + 1, k, h => by
    simp only [roomTo]
    by_cases e : k = n
    · subst e; split <;> omega
    · have := roomTo_le (R := R) (o := o) (n := n) (k := k) (by omega)
      split <;> omega

theorem roomTo_bd {R : List (List Int)} {o : List Int} {lo hi : Int} (h : ∀ i j, lo ≤ ent R i j ∧ ent R i j ≤ hi) : ∀ n, lo ≤ roomTo R o n ∧ roomTo R o n ≤ hi
  | 0 => h _ _
  | n + 1 => by
    have ih := roomTo_bd (o := o) h n
    have := h n (o.getD n 0).toNat
    simp only [roomTo]
    split <;> omega

/-- A square of n rows and columns, its numbers from 0 to 10,000. -/
structure SqN (n : Nat) (R : List (List Int)) : Prop where
  num : R.length = n
  len : ∀ i, i < n → (R.getD i []).length = n
  bd : ∀ i j, 0 ≤ ent R i j ∧ ent R i j ≤ 10000

theorem takeTo_fact {n : Nat} {R : List (List Int)} {o : List Int} (h : SqN n R) (ho : ∀ i, i < n → (o.getD i 0).toNat < n) {z : Int} (hz : 0 ≤ z) (hle : ∀ i, i < n → z ≤ ent R i (o.getD i 0).toNat) : ∀ k, k ≤ n → SqN n (takeTo R o z k) ∧ ∀ i j, k ≤ i → ent (takeTo R o z k) i j = ent R i j
  | 0, _ => ⟨h, fun _ _ _ => rfl⟩
  | k + 1, hk => by
    obtain ⟨h1, h2⟩ := takeTo_fact h ho hz hle k (by omega)
    have hok := ho k (by omega)
    have hrow := h1.len k (by omega)
    simp only [takeTo]
    refine ⟨⟨by rw [setM_len]; exact h1.num, fun i hi => by rw [setM_row]; exact h1.len i hi, fun i j => ?_⟩, fun i j hij => ?_⟩
    · rw [setM_ent (by rw [h1.num]; omega) (by omega)]
      split
      · have a := hle k (by omega)
        have b := h.bd k (o.getD k 0).toNat
        have c := h2 k (o.getD k 0).toNat (Nat.le_refl _)
        omega
      · exact h1.bd i j
    · rw [setM_ent (by rw [h1.num]; omega) (by omega), if_neg (by omega)]
      exact h2 i j (by omega)

theorem pStep_sq {n : Nat} {s : PSt} {o : List Int} (h : SqN n s.rest) (ho : ∀ i, i < n → (o.getD i 0).toNat < n) : SqN n (pStep n s o).rest := by
  unfold pStep
  split
  · rename_i hp
    exact (takeTo_fact h ho (by omega) (fun i hi => roomTo_le hi) n (Nat.le_refl _)).1
  · exact h

end Go.Proofs.Ytekifompoefhbaa
