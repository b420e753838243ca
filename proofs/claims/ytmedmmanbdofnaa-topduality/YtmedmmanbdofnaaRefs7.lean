/- The document's answer: the one direction, by minors. -/
import Derived.Test.YtmedmmanbdofnaaRefs6
namespace Go.Proofs.Ytmedmmanbdofnaa
open Go.RowKit

/-- All numbers below j but k. -/
def skipL (k j : Nat) : List Int := ((List.range j).filter fun x => x != k).map fun (x : Nat) => (x : Int)

theorem skipL_succ (k j : Nat) : skipL k (j + 1) = if j = k then skipL k j else skipL k j ++ [(j : Int)] := by
  unfold skipL
  rw [List.range_succ, List.filter_append, List.map_append]
  by_cases h : j = k
  · subst h; simp
  · simp [h]

theorem skipL_spec {k j : Nat} : (skipL k j).length = (if k < j then j - 1 else j) ∧ ∀ i, i < (skipL k j).length → (skipL k j).getD i 0 = (Lin.skp k i : Nat) := by
  induction j with
  | zero => simp [skipL]
  | succ j ih =>
    obtain ⟨h1, h2⟩ := ih
    rw [skipL_succ]
    by_cases e : j = k
    · rw [if_pos e]
      refine ⟨?_, h2⟩
      rw [h1, if_neg (by omega), if_pos (by omega)]; omega
    · rw [if_neg e]
      by_cases hk : k < j
      · rw [if_pos hk] at h1
        refine ⟨by rw [List.length_append, h1, if_pos (by omega)]; simp; omega, fun i hi => ?_⟩
        by_cases hi' : i < (skipL k j).length
        · rw [← h2 i hi']; simp only [List.getD_eq_getElem?_getD]; rw [List.getElem?_append_left hi']
        · have : i = (skipL k j).length := by simp at hi; omega
          subst this
          simp only [List.getD_eq_getElem?_getD]; rw [List.getElem?_append_right (by omega)]
          simp [Lin.skp, h1, show ¬ j - 1 < k by omega]; omega
      · rw [if_neg hk] at h1
        refine ⟨by rw [List.length_append, h1, if_neg (by omega)]; simp, fun i hi => ?_⟩
        by_cases hi' : i < (skipL k j).length
        · rw [← h2 i hi']; simp only [List.getD_eq_getElem?_getD]; rw [List.getElem?_append_left hi']
        · have : i = (skipL k j).length := by simp at hi; omega
          subst this
          simp only [List.getD_eq_getElem?_getD]; rw [List.getElem?_append_right (by omega)]
          simp [Lin.skp, h1, show j < k by omega]

theorem skipL_len {k c : Nat} (h : k < c) : (skipL k c).length = c - 1 := by rw [skipL_spec.1, if_pos h]

theorem skipL_mem {k c : Nat} {q : Int} (h : q ∈ skipL k c) : 0 ≤ q ∧ q < (c : Int) := by
  simp only [skipL, List.mem_map, List.mem_filter, List.mem_range] at h
  obtain ⟨x, ⟨h1, _⟩, rfl⟩ := h
  omega

/-- The direction that minors tell, number by number. -/
def muL (c : Nat) (rows : List (List Int)) : List Int := (List.range c).map fun k => Lin.mu (fm rows) k

theorem det_skip {rows : List (List Int)} {c k : Nat} (hl : rows.length + 1 = c) (hk : k < c) : detL (colsL rows (skipL k c)) = Lin.od (fm rows).length (Lin.cols (fm rows) (Lin.skp k)) fun _ => false := by
  have hsl : (skipL k c).length = rows.length := by rw [skipL_len hk]; omega
  rw [det_cols hsl]
  refine Lin.od_congr (by simp [Lin.cols]) (fun i hi j hj => ?_) _
  have hi' : i < rows.length := by simpa [Lin.cols, fm] using hi
  have hj' : j < rows.length := by simpa [fm] using hj
  have e : toK (skipL k c) j = Lin.skp k j := by
    unfold toK; rw [skipL_spec.2 j (by omega)]; simp
  simp [Lin.cols, fm, hi', e]

theorem ngo_mod (k : Nat) : Lin.ngo k = if k % 2 = 1 then -1 else 1 := by
  induction k with
  | zero => rfl
  | succ k ih =>
    simp only [Lin.ngo]; rw [ih]
    by_cases h : k % 2 = 1
    · rw [if_pos h, if_neg (by omega)]; rfl
    · rw [if_neg h, if_pos (by omega)]

theorem muL_snoc (c : Nat) (rows : List (List Int)) (k : Nat) (h : k < c) : (muL c rows).take (k + 1) = (muL c rows).take k ++ [Lin.mu (fm rows) k] := by
  unfold muL
  rw [List.take_succ_eq_append_getElem (by simpa using h)]; simp

theorem sq_skip {c Bd k : Nat} {rows : List (List Int)} (h : Mx c Bd rows) (hl : rows.length + 1 = c) (hk : k < c) : Sq (colsL rows (skipL k c)).length Bd (colsL rows (skipL k c)) := by
  have hc := h.c5
  rw [colsL_length]
  refine ⟨colsL_length _ _, fun r hr => ?_, fun r hr j hj => ?_, Nat.le_trans (fb_mono h.pos (by omega)) h.small, by omega, h.pos⟩
  · simp only [colsL, List.mem_map] at hr
    obtain ⟨r', _, rfl⟩ := hr
    rw [List.length_map, skipL_len hk]; omega
  · simp only [colsL, List.mem_map] at hr
    obtain ⟨r', hr', rfl⟩ := hr
    have hsl : j < (skipL k c).length := by rw [skipL_len hk]; omega
    have hq := skipL_mem (List.getElem_mem hsl)
    have e : ((skipL k c).map fun x => r'.getD x.toNat 0).getD j 0 = r'.getD ((skipL k c)[j]).toNat 0 := by simp [hsl]
    rw [e]
    have hlt : ((skipL k c)[j]).toNat < r'.length := by rw [h.row r' hr']; omega
    exact h.bd r' hr' _ (by simp [hlt])

theorem mu_bd {c Bd k : Nat} {rows : List (List Int)} (h : Mx c Bd rows) (hl : rows.length + 1 = c) (hk : k < c) : (detL (colsL rows (skipL k c))).natAbs ≤ 1152921504606846976 := by
  have hs := sq_skip h hl hk
  unfold detL
  have h1 := Lin.od_bd (n := (colsL rows (skipL k c)).length) (B := Bd) (fm (colsL rows (skipL k c))) (fun _ => false) (fun r hr j hj => by
    simp only [fm, List.mem_map] at hr
    obtain ⟨l, hl, rfl⟩ := hr
    exact hs.bd l hl j hj) (by rw [Lin.cu_none]; simp [fm])
  have h2 : (fm (colsL rows (skipL k c))).length = (colsL rows (skipL k c)).length := by simp [fm]
  rw [h2] at h1
  have := hs.small
  omega

theorem muL_bd {c Bd : Nat} {rows : List (List Int)} (h : Mx c Bd rows) (hl : rows.length + 1 = c) : ∀ z ∈ muL c rows, z.natAbs ≤ 1152921504606846976 := by
  intro z hz
  simp only [muL, List.mem_map, List.mem_range] at hz
  obtain ⟨k, hk, rfl⟩ := hz
  have h1 := mu_bd h hl hk
  rw [det_skip hl hk] at h1
  unfold Lin.mu
  rw [Int.natAbs_mul]
  have h2 : (Lin.ngo k).natAbs = 1 := by rw [ngo_mod]; by_cases e : k % 2 = 1 <;> simp [e]
  rw [h2, Nat.one_mul]; exact h1

theorem low_bd {l : List Int} {b : Nat} (h : ∀ z ∈ l, z.natAbs ≤ b) : ∀ z ∈ Lin.low l, z.natAbs ≤ b := by
  intro z hz
  simp only [Lin.low, List.mem_map] at hz
  obtain ⟨y, hy, rfl⟩ := hz
  by_cases h0 : Lin.gc l = 0
  · rw [h0]; simp
  · have h1 := h y hy
    obtain ⟨q, hq⟩ := Lin.gc_dvd hy
    have h3 : y / (Lin.gc l : Int) = q := by rw [hq]; exact Int.mul_ediv_cancel_left q (by omega)
    have h4 : y.natAbs = Lin.gc l * q.natAbs := by rw [hq, Int.natAbs_mul]; simp
    rw [h3]
    have h5 : 1 * q.natAbs ≤ Lin.gc l * q.natAbs := Nat.mul_le_mul_right _ (by omega)
    omega

/-- The answer: the list, and whether there is one. -/
def normL (c : Nat) (m : List (List Int)) : List Int := if (pickL c m).length + 1 = c then Lin.upr (Lin.low (muL c (pickL c m))) else []
def normB (c : Nat) (m : List (List Int)) : Bool := decide ((pickL c m).length + 1 = c)

end Go.Proofs.Ytmedmmanbdofnaa
