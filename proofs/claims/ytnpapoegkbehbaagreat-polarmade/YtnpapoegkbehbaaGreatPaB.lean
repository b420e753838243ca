import Derived.Test.YtnpapoegkbehbaaGreatDatA
import Derived.Test.YtnpapoegkbehbaaGreatBetY
import Derived.Test.YtnpapoegkbehbaaGreatLtA
import Derived.Test.YtnpapoegkbehbaaGreatRowA
/- The points around 0 that are made of raw numbers. -/
namespace Go.Proofs.YtnpapoegkbehbaaGreat

def onesL (n : Nat) : List Int := (List.range n).map fun _ => 1
theorem onesL_len (n : Nat) : (onesL n).length = n := by simp [onesL]
theorem onesL_succ (n : Nat) : onesL (n + 1) = onesL n ++ [1] := by simp [onesL, List.range_succ]

/-- A point on an axis. -/
def axL (n k : Nat) (a : Int) : List Int := (List.range n).map fun j => if j = k then a else 0
theorem axL_len (n k : Nat) (a : Int) : (axL n k a).length = n := by simp [axL]

/-- The points around 0. -/
def aroL (n : Nat) (m : List (List Int)) (α : Nat → Int) (k : Nat) : List (List Int) := m ++ (List.range k).map fun j => axL n j (α j)
theorem aroL_len (n : Nat) (m : List (List Int)) (α : Nat → Int) (k : Nat) : (aroL n m α k).length = m.length + k := by simp [aroL]

theorem aroL_put (n : Nat) (m : List (List Int)) (α : Nat → Int) (k : Nat) (a : Int) : aroL n m (fun j => if j = k then a else α j) (k + 1) = aroL n m α k ++ [axL n k a] := by
  unfold aroL
  rw [List.range_succ, List.map_append, ← List.append_assoc]
  congr 1
  · congr 1
    exact List.map_congr_left fun j hj => by
      show axL n j (if j = k then a else α j) = _
      rw [if_neg (by have := List.mem_range.1 hj; omega)]
  · simp

end Go.Proofs.YtnpapoegkbehbaaGreat

/- The points around 0 don't lie flat, and all their rows have their last number above 0. -/
namespace Go.Proofs.YtnpapoegkbehbaaGreat
open Lin

def around (n : Nat) (m : List (List Int)) (α : Nat → Int) : List (List Int) := aroL n m α n ++ [(onesL n).map fun z => -z]

theorem dot_ax {n k : Nat} (hk : k < n) (a : Int) (v : Nat → Int) : dot n v (V (axL n k a)) = v k * a := by
  unfold dot
  rw [sumN_one hk (fun i hi hne => by simp [V, axL, hi, hne])]
  simp [V, axL, hk]

theorem dot_ones (n : Nat) (v : Nat → Int) : dot n v (V ((onesL n).map fun z => -z)) = - sumN n v := by
  unfold dot
  rw [← sumN_neg]
  exact sumN_congr fun i hi => by rw [V_neg]; simp [V, onesL, hi]

theorem ax_mem {n k : Nat} (hk : k < n) (m : List (List Int)) (α : Nat → Int) : axL n k (α k) ∈ around n m α :=
  List.mem_append_left _ (List.mem_append_right _ (List.mem_map.2 ⟨k, List.mem_range.2 hk, rfl⟩))

theorem ones_mem (n : Nat) (m : List (List Int)) (α : Nat → Int) : ((onesL n).map fun z => -z) ∈ around n m α := List.mem_append_right _ (by simp)

theorem around_len (n : Nat) (m : List (List Int)) (α : Nat → Int) : (around n m α).length = m.length + n + 1 := by
  unfold around
  rw [List.length_append, aroL_len]
  rfl

theorem around_box {n wd : Nat} {m : List (List Int)} {α : Nat → Int} (hm : Box n wd m) (hw : wd ≤ 6) (hα : ∀ j, 1 ≤ α j ∧ α j ≤ 2) : Box n 6 (around n m α) := by
  intro r hr
  unfold around aroL at hr
  rcases List.mem_append.1 hr with hr | hr
  · rcases List.mem_append.1 hr with hr | hr
    · refine ⟨(hm r hr).1, fun z hz => ?_⟩
      have := (hm r hr).2 z hz
      omega
    · obtain ⟨k, _, rfl⟩ := List.mem_map.1 hr
      refine ⟨axL_len _ _ _, fun z hz => ?_⟩
      simp only [axL, List.mem_map] at hz
      obtain ⟨j, _, rfl⟩ := hz
      have := hα k
      split <;> omega
  · simp only [List.mem_singleton] at hr
    subst hr
    refine ⟨by simp [onesL], fun z hz => ?_⟩
    simp only [onesL, List.map_map, List.mem_map] at hz
    obtain ⟨j, _, rfl⟩ := hz
    show -((6 : Nat) : Int) ≤ -1 ∧ (-1 : Int) ≤ ((6 : Nat) : Int)
    omega

theorem sum_le {n : Nat} {v : Nat → Int} (h : ∀ i, i < n → v i ≤ 0) : sumN n v ≤ 0 ∧ ∀ k, k < n → sumN n v ≤ v k := by
  induction n with
  | zero => exact ⟨by simp [sumN], fun k hk => absurd hk (by omega)⟩
  | succ n ih =>
    obtain ⟨h1, h2⟩ := ih fun i hi => h i (by omega)
    have h3 := h n (by omega)
    refine ⟨by simp only [sumN]; omega, fun k hk => ?_⟩
    simp only [sumN]
    by_cases e : k = n
    · rw [e]; omega
    · have := h2 k (by omega)
      omega

theorem sum_ge {n : Nat} {v : Nat → Int} (h : ∀ i, i < n → 0 ≤ v i) : 0 ≤ sumN n v := by
  have := (sum_le (n := n) (v := fun i => - v i) fun i hi => by have := h i hi; omega).1
  rw [sumN_neg] at this
  omega

theorem around_span {n : Nat} {m : List (List Int)} {α : Nat → Int} (hα : ∀ j, 1 ≤ α j ∧ α j ≤ 2) (c : Nat → Int) (h : ∀ y ∈ around n m α, ∀ z ∈ around n m α, dot n c (V y) = dot n c (V z)) : ∀ i, i < n → c i = 0 := by
  have hk : ∀ k, k < n → c k * α k = - sumN n c := fun k hk => by
    have := h _ (ax_mem hk m α) _ (ones_mem n m α)
    rw [dot_ax hk, dot_ones] at this
    exact this
  have hs : sumN n c = 0 := by
    rcases Int.lt_trichotomy (sumN n c) 0 with hs | hs | hs
    · have : 0 ≤ sumN n c := sum_ge fun i hi => Classical.byContradiction fun hn => by
        have h2 := hk i hi
        have h3 := hα i
        have h4 : c i * α i ≤ 0 := Int.mul_nonpos_of_nonpos_of_nonneg (by omega) (by omega)
        omega
      omega
    · exact hs
    · have := (sum_le (n := n) (v := c) fun i hi => Classical.byContradiction fun hn => by
        have h2 := hk i hi
        have h3 := hα i
        have h4 : 0 ≤ c i * α i := Int.mul_nonneg (by omega) (by omega)
        omega).1
      omega
  intro i hi
  have h2 := hk i hi
  have h3 := hα i
  rw [hs] at h2
  have h4 : c i * α i = 0 := by omega
  rcases Int.mul_eq_zero.1 h4 with h5 | h5
  · exact h5
  · omega

theorem around_good {n wd : Nat} {m : List (List Int)} {α : Nat → Int} (h1 : 1 ≤ n) (h4 : n ≤ 4) (hm : Box n wd m) (hw : wd ≤ 6) (hl : m.length ≤ 10) (hα : ∀ j, 1 ≤ α j ∧ α j ≤ 2) : Good n (around n m α) := by
  have hb := around_box hm hw hα
  exact ⟨h1, h4, by rw [around_len]; omega, by rw [around_len]; omega, fun r hr => ⟨(hb r hr).1, fun z hz => by have := (hb r hr).2 z hz; omega⟩, full_of_span (fun y hy => (hb y hy).1) (fun c hc => around_span hα c hc)⟩

/-- No row is met at 0. -/
theorem around_pos {n wd : Nat} {m : List (List Int)} {α : Nat → Int} (h1 : 1 ≤ n) (h4 : n ≤ 4) (hm : Box n wd m) (hw : wd ≤ 6) (hl : m.length ≤ 10) (hα : ∀ j, 1 ≤ α j ∧ α j ≤ 2) {r : List Int} (hr : r ∈ rowsD (around n m α) n) : 0 < r.getD n 0 := by
  have hg := around_good h1 h4 hm hw hl hα
  have hr' := mem_rowsD.1 hr
  have hrow := rowsC_fit hg.box h1 (by omega) (fun _ => Iff.rfl) hr'
  obtain ⟨_, _, _, ⟨p, hp, hne⟩, _⟩ := row_one (fun y hy => (hg.box y hy).1) h1 hr'
  refine Classical.byContradiction fun hn => ?_
  have ha : ∀ k, k < n → V r k ≤ 0 := fun k hk => Classical.byContradiction fun hv => by
    have h2 := hrow.all _ (ax_mem hk m α)
    rw [dot_ax hk] at h2
    have h3 := hα k
    have h5 : 1 ≤ V r k * α k := by
      have : 1 * 1 ≤ V r k * α k := Int.mul_le_mul (by omega) h3.1 (by omega) (by omega)
      omega
    omega
  have h2 := hrow.all _ (ones_mem n m α)
  rw [dot_ones] at h2
  obtain ⟨h5, h6⟩ := sum_le ha
  have h7 := h6 p hp
  have h8 := ha p hp
  omega

end Go.Proofs.YtnpapoegkbehbaaGreat
