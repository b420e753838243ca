/- Polytopes that have names, as lists: pure. -/
import Derived.Test.YtiadekblckngiaaTp1
namespace Go.Proofs.Ytiadekblckngiaa

/-- A list of n numbers, one of which is z. -/
def axN (n k : Nat) (z : Int) : List Int := (List.replicate n (0 : Int)).set k z
theorem axN_len (n k : Nat) (z : Int) : (axN n k z).length = n := by simp [axN]

def simT (n k : Nat) : List (List Int) := List.replicate n (0 : Int) :: (List.range k).map fun i => axN n i 1
theorem simT_succ (n k : Nat) : simT n (k + 1) = simT n k ++ [axN n k 1] := by simp [simT, List.range_succ]
theorem simT_len (n k : Nat) : (simT n k).length = k + 1 := by simp [simT]

def crsT (n k : Nat) : List (List Int) := (List.range k).flatMap fun i => [axN n i (-1), axN n i 1]
theorem crsT_succ (n k : Nat) : crsT n (k + 1) = crsT n k ++ [axN n k (-1), axN n k 1] := by simp [crsT, List.range_succ]
theorem crsT_len (n k : Nat) : (crsT n k).length = 2 * k := by
  induction k with
  | zero => rfl
  | succ k ih => rw [crsT_succ]; simp [ih]; omega

/-- The digits of x, in base 2, n of them: the first i of them, the others 0. -/
def digT (n x i : Nat) : List Int := (List.range n).map fun j => if j < i then ((x / 2 ^ (n - 1 - j) % 2 : Nat) : Int) else 0
theorem digT_len (n x i : Nat) : (digT n x i).length = n := by simp [digT]
theorem digT_zero (n x : Nat) : digT n x 0 = List.replicate n 0 := by
  simp only [digT, Nat.not_lt_zero, if_false]
  exact List.ext_getElem (by simp) (by simp)
theorem digT_succ (n x i : Nat) : digT n x (i + 1) = (digT n x i).set i ((x / 2 ^ (n - 1 - i) % 2 : Nat) : Int) := by
  apply List.ext_getElem
  · simp [digT]
  · intro j h1 h2
    simp only [digT, List.getElem_map, List.getElem_range, List.getElem_set]
    by_cases e : i = j
    · subst e; simp
    · simp only [e, if_false]
      by_cases e2 : j < i
      · simp [e2, show j < i + 1 by omega]
      · simp [e2, show ¬ j < i + 1 by omega]

def digL (n x : Nat) : List Int := digT n x n
def cubT (n k : Nat) : List (List Int) := (List.range k).map fun x => digL n x
theorem cubT_succ (n k : Nat) : cubT n (k + 1) = cubT n k ++ [digL n k] := by simp [cubT, List.range_succ]
theorem cubT_len (n k : Nat) : (cubT n k).length = k := by simp [cubT]

/-- Each number one more. -/
def upL (l : List Int) : List Int := l.map fun z => z + 1
def upT (l : List Int) (k : Nat) : List Int := upL (l.take k) ++ l.drop k
theorem upT_zero (l : List Int) : upT l 0 = l := by simp [upT, upL]
theorem upT_all (l : List Int) : upT l l.length = upL l := by simp [upT]
theorem upT_len (l : List Int) (k : Nat) (h : k ≤ l.length) : (upT l k).length = l.length := by simp [upT, upL]; omega
theorem upT_at (l : List Int) (k : Nat) (h : k < l.length) : (upT l k).getD k 0 = l.getD k 0 := by
  simp only [upT, upL, List.getD_eq_getElem?_getD]
  rw [List.getElem?_append_right (by simp; omega)]
  simp [show min k l.length = k by omega]
theorem upT_succ (l : List Int) (k : Nat) (h : k < l.length) : upT l (k + 1) = (upT l k).set k (l.getD k 0 + 1) := by
  apply List.ext_getElem?
  intro i
  rw [List.getElem?_set, upT_len l k (by omega)]
  simp only [upT, upL]
  by_cases e : k = i
  · subst e
    rw [List.getElem?_append_left (by simp; omega)]
    simp [h]
  · simp only [e, if_false]
    by_cases e2 : i < k
    · rw [List.getElem?_append_left (by simp; omega), List.getElem?_append_left (by simp; omega)]
      simp [e2, show i < k + 1 by omega]
    · rw [List.getElem?_append_right (by simp; omega), List.getElem?_append_right (by simp; omega)]
      simp only [List.getElem?_drop, List.length_map, List.length_take]
      congr 1
      omega

/-- The numbers of trees: by the knot on top. -/
def trN (n k : Nat) : Int := ((k : Int) + 1) * ((n : Int) - k)
def trR (t : Nat → List (List Int)) (n k : Nat) : List (List Int) := (t k).flatMap fun l => (t (n - 1 - k)).map fun r => l ++ [trN n k] ++ r
def trS (t : Nat → List (List Int)) (n k : Nat) : List (List Int) := (List.range k).flatMap (trR t n)
def trI : Nat → Nat → List (List Int)
  | 0, _ => [[]]
  | f + 1, n => if n = 0 then [[]] else trS (trI f) n n
def trL (n : Nat) : List (List Int) := trI 4 n

theorem trL_zero : trL 0 = [[]] := rfl
theorem trL_eq : ∀ n, n < 5 → 1 ≤ n → trL n = trS trL n n := by decide +kernel
theorem trL_len : ∀ n, n < 5 → 1 ≤ (trL n).length ∧ (trL n).length ≤ 14 := by decide +kernel
theorem trL_row : ∀ n, n < 5 → ∀ r ∈ trL n, r.length = n := by decide +kernel

theorem trS_succ (t : Nat → List (List Int)) (n k : Nat) : trS t n (k + 1) = trS t n k ++ trR t n k := by simp [trS, List.range_succ]

/-- With the first i of what is left, and of it the first j of what is right. -/
def trM (n k i : Nat) : List (List Int) := trS trL n k ++ ((trL k).take i).flatMap fun l => (trL (n - 1 - k)).map fun r => l ++ [trN n k] ++ r
def trJ (n k i j : Nat) : List (List Int) := trM n k i ++ ((trL (n - 1 - k)).take j).map fun r => (trL k).getD i [] ++ [trN n k] ++ r

theorem trM_zero (n k : Nat) : trM n k 0 = trS trL n k := by simp [trM]
theorem trM_all (n k : Nat) : trM n k (trL k).length = trS trL n (k + 1) := by simp [trM, trS_succ, trR]
theorem trJ_zero (n k i : Nat) : trJ n k i 0 = trM n k i := by simp [trJ]
theorem trJ_all (n k i : Nat) (h : i < (trL k).length) : trJ n k i (trL (n - 1 - k)).length = trM n k (i + 1) := by
  have e : (trL k).take (i + 1) = (trL k).take i ++ [(trL k).getD i []] := by rw [List.take_succ_eq_append_getElem h]; simp [h]
  simp only [trJ, trM, List.take_length, e, List.flatMap_append, List.append_assoc]
  simp
theorem trJ_succ (n k i j : Nat) (h : j < (trL (n - 1 - k)).length) : trJ n k i (j + 1) = trJ n k i j ++ [(trL k).getD i [] ++ [trN n k] ++ (trL (n - 1 - k)).getD j []] := by
  have e : (trL (n - 1 - k)).take (j + 1) = (trL (n - 1 - k)).take j ++ [(trL (n - 1 - k)).getD j []] := by rw [List.take_succ_eq_append_getElem h]; simp [h]
  simp only [trJ, e, List.map_append, List.append_assoc]
  simp
theorem trJ_len : ∀ n, n < 5 → ∀ k, k < n → ∀ i, i < 15 → ∀ j, j < 15 → (trJ n k i j).length ≤ 100 := by decide +kernel

/-- In order, and without the last number. -/
def trO : Nat → List (List Int)
  | 1 => [[1, 2], [2, 1]]
  | 2 => [[1, 2, 3], [1, 4, 1], [2, 1, 3], [3, 1, 2], [3, 2, 1]]
  | 3 => [[1, 2, 3, 4], [1, 2, 6, 1], [1, 4, 1, 4], [1, 6, 1, 2], [1, 6, 2, 1], [2, 1, 3, 4], [2, 1, 6, 1], [3, 1, 2, 4], [3, 2, 1, 4], [4, 1, 2, 3], [4, 1, 4, 1], [4, 2, 1, 3], [4, 3, 1, 2], [4, 3, 2, 1]]
  | _ => []
theorem trO_mem : ∀ d, d < 4 → 1 ≤ d → (∀ r ∈ trO d, r ∈ trL (d + 1)) ∧ ∀ r ∈ trL (d + 1), r ∈ trO d := by decide +kernel
theorem trO_len : ∀ d, d < 4 → (trO d).length ≤ 14 := by decide +kernel

/-- What each kind is, of dimension d. -/
def nmL (k d : Nat) : List (List Int) :=
  if d = 0 ∨ 4 < d ∨ (2 < k ∧ 3 < d) then [] else
  match k with
  | 0 => simT d d
  | 1 => cubT d (2 ^ d)
  | 2 => crsT d d
  | 3 => (ords (d + 1) (d + 1) []).map fun o => (upL o).take d
  | _ => (trO d).map fun r => r.take d

theorem nmL_len : ∀ k, k < 5 → ∀ d, d < 5 → (nmL k d).length ≤ 24 := by decide +kernel
theorem nmL_row : ∀ k, k < 5 → ∀ d, d < 5 → ∀ r ∈ nmL k d, r.length = d := by decide +kernel

end Go.Proofs.Ytiadekblckngiaa
