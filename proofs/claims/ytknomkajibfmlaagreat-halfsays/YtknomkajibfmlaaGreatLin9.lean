/- What elimination tells: rank, determinant, normal, as the document's answer tells them. -/
import Derived.Test.YtknomkajibfmlaaGreatRun9
import Derived.Test.YtknomkajibfmlaaGreatRefs7
namespace Go.Proofs.YtknomkajibfmlaaGreat
open Lin

theorem fm_row {m : List (List Int)} {i : Nat} (h : i < m.length) : row (fm m) i = mOf m i := by
  unfold row fm mOf
  rw [List.getD_eq_getElem?_getD, List.getElem?_map, List.getElem?_eq_getElem h]
  simp [h]

theorem fm_length (m : List (List Int)) : (fm m).length = m.length := by simp [fm]

theorem red_in {m : List (List Int)} {q : Nat} {M' : Nat → Nat → Int} {C : Nat → Nat} {k : Nat} {sgn : Int} (h : Red (mOf m) m.length q M' C k sgn) {r : Nat → Int} (hr : r ∈ fm m) : ∃ i, i < m.length ∧ r = M' i := by
  obtain ⟨i, h1, h2⟩ := mem_row hr
  rw [fm_length] at h1
  rw [fm_row h1] at h2
  obtain ⟨i', h3, h4⟩ := h.sup i h1
  exact ⟨i', h3, by rw [← h2, h4]⟩

theorem red_out {m : List (List Int)} {q : Nat} {M' : Nat → Nat → Int} {C : Nat → Nat} {k : Nat} {sgn : Int} (h : Red (mOf m) m.length q M' C k sgn) {i : Nat} (hi : i < m.length) : M' i ∈ fm m := by
  obtain ⟨i', h1, h2⟩ := h.sub i hi
  rw [h2, ← fm_row h1]
  exact row_mem (by rw [fm_length]; exact h1)

theorem red_rank {m : List (List Int)} {c : Nat} {M' : Nat → Nat → Int} {C : Nat → Nat} {k : Nat} {sgn : Int} (h : Red (mOf m) m.length c M' C k sgn) : k = (pickL c m).length := by
  have hg := pick_greedy c m
  obtain ⟨K, hK, hf⟩ := hg.free
  rw [← fm_length (pickL c m)]
  refine rank_eq h.done hK.2 hf (fun a ha => ?_) (fun i hi => hg.dep _ (red_out h hi))
  obtain ⟨i, h1, h2⟩ := red_in h (hg.mem _ (row_mem ha))
  exact ⟨i, h1, fun j _ => by rw [h2]⟩

theorem red_norm {m : List (List Int)} {c : Nat} {M' : Nat → Nat → Int} {C : Nat → Nat} {k f : Nat} {sgn : Int} {v : Nat → Int} (h : Red (mOf m) m.length c M' C k sgn) (hk : k + 1 = c) (hv : Nu M' c k C f v) :
    upr (low ((List.range c).map v)) = normL c m := by
  have hr := red_rank h
  unfold normL
  rw [if_pos (by omega)]
  have hg := pick_greedy c m
  have hl : (fm (pickL c m)).length + 1 = c := by rw [fm_length]; omega
  have hy : ∀ i, i < m.length → sumN c (fun j => M' i j * mu (fm (pickL c m)) j) = 0 := by
    intro i hi
    obtain ⟨e, l, he, hd⟩ := hg.dep _ (red_out h hi)
    have h2 : e * sumN c (fun j => M' i j * mu (fm (pickL c m)) j) = 0 := by
      rw [← sumN_mul, sumN_congr (g := fun j => sumN (fm (pickL c m)).length (fun a => l a * (row (fm (pickL c m)) a j * mu (fm (pickL c m)) j))) (fun j hj => by
        rw [← Int.mul_assoc, hd j hj]; unfold comb; rw [← sumN_mul_right]; exact sumN_congr fun i _ => by rw [Int.mul_assoc])]
      rw [sumN_swap]
      refine sumN_zero fun a ha => ?_
      rw [sumN_mul]
      have := mu_orth ha
      rw [hl] at this
      rw [this, Int.mul_zero]
    rcases Int.mul_eq_zero.1 h2 with h3 | h3
    · exact absurd h3 he
    · exact h3
  have hp : ∀ j, j < c → dk M' C k * mu (fm (pickL c m)) j = mu (fm (pickL c m)) f * v j := fun j hj => nu_only h.done hv hy hj
  have hmf : mu (fm (pickL c m)) f ≠ 0 := by
    obtain ⟨k0, h1, h2⟩ := mu_free (H := fm (pickL c m)) (by rw [hl]; exact hg.free)
    intro e
    have := hp k0 (by omega)
    rw [e, Int.zero_mul] at this
    rcases Int.mul_eq_zero.1 this with h3 | h3
    · exact h.done.nz h3
    · exact h2 h3
  refine norm_eq hmf h.done.nz ?_
  unfold muL
  rw [List.map_map, List.map_map]
  exact List.map_congr_left fun j hj => (hp j (by simpa using hj)).symm

theorem red_entry {m : List (List Int)} {c B q : Nat} {M' : Nat → Nat → Int} {C : Nat → Nat} {k : Nat} {sgn : Int} (hx : Mx c B m) (h : Red (mOf m) m.length q M' C k sgn) : ∀ i, i < m.length → ∀ j, j < c → (M' i j).natAbs ≤ B := by
  intro i hi j hj
  obtain ⟨i', h1, h2⟩ := h.sub i hi
  rw [h2]
  unfold mOf
  have hm : m.getD i' [] ∈ m := by rw [List.getD_eq_getElem?_getD, List.getElem?_eq_getElem h1]; exact List.getElem_mem h1
  have hl := hx.row _ hm
  refine hx.bd _ hm _ ?_
  generalize m.getD i' [] = r at hl ⊢
  have hjr : j < r.length := by omega
  have e : r.getD j 0 = r[j] := by simp [hjr]
  rw [e]; exact List.getElem_mem hjr

theorem fb_one (B : Nat) (h : 1 ≤ B) : ∀ k, 1 ≤ fb B k
  | 0 => Nat.le_refl _
  | k + 1 => by
    unfold fb
    exact Nat.mul_pos (Nat.mul_pos (by omega) h) (fb_one B h k)

theorem rising_le {k c : Nat} {C : Nat → Nat} (h : Rising k c C) : k ≤ c := by
  have h1 : ∀ i, i < k → i ≤ C i := by
    intro i
    induction i with
    | zero => intro _; omega
    | succ i ih =>
      intro hi
      have := ih (by omega)
      have := h.1 i (i + 1) (by omega) hi
      omega
  by_cases hk : k = 0
  · omega
  · have := h1 (k - 1) (by omega)
    have := h.2 (k - 1) (by omega)
    omega

theorem bd_of {m : List (List Int)} {c B : Nat} (hx : Mx c B m) (h34 : fb B 3 * (fb B 4 + fb B 5) ≤ 9223372036854775807)
    (had : ∀ M' : Nat → Nat → Int, (∀ i, i < 5 → ∀ j, j < 5 → (M' i j).natAbs ≤ B) → (dk M' id 4 * dk M' id 5).natAbs ≤ 9223372036854775807) : Bd (mOf m) m.length c := by
  intro q M' C k sgn hq h i hi j hj
  have hent := red_entry hx h
  have hkq := rising_le h.done.rise
  have hc5 := hx.c5
  have hkn := h.done.kn
  have hCc : ∀ b, b < k + 1 → C b < c := fun b hb => Nat.lt_of_lt_of_le (h.done.rise.2 b hb) hq
  have hsm := hx.small
  by_cases h4 : k + 1 ≤ 4
  · have h1 := rr_bd (B := B) (n := m.length) (c := c) (k := k + 1) (i := i) (j := j) (M := M') (C := C) hx.pos hent hkn hCc hi hj
    have h2 := dk_bd (B := B) (k := k) (M := M') (C := C) (fun i hi b hb => hent i (by omega) _ (hCc b (by omega)))
    have m1 : fb B (k + 1) ≤ fb B 4 := fb_mono hx.pos h4
    have m2 : fb B (k + 1 + 1) ≤ fb B 5 := fb_mono hx.pos (by omega)
    have m3 : fb B k ≤ fb B 3 := fb_mono hx.pos (by omega)
    have o3 := fb_one B hx.pos 3
    have hp : (dk M' C k * rr M' C (k + 1) i j).natAbs ≤ fb B 3 * (fb B 4 + fb B 5) := by
      rw [Int.natAbs_mul]
      exact Nat.mul_le_mul (by omega) (by omega)
    have hq : (rr M' C (k + 1) i j).natAbs ≤ fb B 3 * (fb B 4 + fb B 5) :=
      Nat.le_trans (show (rr M' C (k + 1) i j).natAbs ≤ 1 * (fb B 4 + fb B 5) by omega) (Nat.mul_le_mul_right _ o3)
    omega
  · have hk : k = 4 := by omega
    subst hk
    have hc : c = 5 := by omega
    subst hc
    have hq5 : q = 5 := by omega
    subst hq5
    have hid : ∀ b, b < 5 → C b = b := fun b hb => rising_id h.done.rise hb
    have e4 : dk M' C 4 = dk M' id 4 := dk_congr (fun _ _ => rfl) fun b hb => hid b (by omega)
    have e5 : dk M' C 5 = dk M' id 5 := dk_congr (fun _ _ => rfl) fun b hb => hid b hb
    have b5 := dk_bd (B := B) (k := 5) (M := M') (C := id) (fun i hi b hb => hent i (by omega) _ hb)
    have hh := had M' (fun i hi j hj => hent i (by omega) j hj)
    have hr : rr M' C (4 + 1) i j = 0 ∨ rr M' C (4 + 1) i j = dk M' id 5 := by
      by_cases hi5 : i < 5
      · have := rr_pivot h.done.nz h.done.rise.1 hi5 hj
        rw [hid j hj] at this
        by_cases e : i = j
        · rw [if_pos e] at this; right; rw [this]; exact e5
        · rw [if_neg e] at this; left; exact this
      · left; exact h.done.zero i (by omega) hi j hj
    rw [e4]
    rcases hr with e | e <;> rw [e]
    · simp
    · exact ⟨hh, by omega⟩

end Go.Proofs.YtknomkajibfmlaaGreat
