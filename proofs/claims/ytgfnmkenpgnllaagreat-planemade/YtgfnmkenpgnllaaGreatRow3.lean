/- The row through chosen points. -/
import Derived.Test.YtgfnmkenpgnllaaGreatRow1
import Derived.Test.YtgfnmkenpgnllaaGreatOwn2
import Derived.Test.YtgfnmkenpgnllaaGreatData
import Derived.Maps.AppendAt
namespace Go.Proofs.YtgfnmkenpgnllaaGreat
open Go.RowKit
attribute [local go_sem ↓] Go.wp_at_zero Go.wp_at_succ

theorem getD_mem {l : List Int} {i : Nat} (h : i < l.length) : l.getD i 0 ∈ l := by simp [h]

theorem muL_len (c : Nat) (rows : List (List Int)) : (muL c rows).length = c := by simp [muL]

theorem norm_len {c : Nat} {m : List (List Int)} (h : normB c m = true) : (normL c m).length = c := by
  unfold normB at h
  unfold normL
  rw [if_pos (of_decide_eq_true h), upr_len, low_len, muL_len]

theorem upr_bd {l : List Int} {b : Nat} (h : ∀ z ∈ l, z.natAbs ≤ b) : ∀ z ∈ Lin.upr l, z.natAbs ≤ b := by
  intro z hz
  unfold Lin.upr at hz
  split at hz
  · simp only [List.mem_map] at hz
    obtain ⟨y, hy, rfl⟩ := hz
    rw [Int.natAbs_neg]; exact h y hy
  · exact h z hz

theorem mu_small {c : Nat} {m : List (List Int)} (hx : Mx c 60 m) (hl : (pickL c m).length + 1 = c) : ∀ z ∈ muL c (pickL c m), z.natAbs ≤ 1000000000000 := by
  intro z hz
  simp only [muL, List.mem_map, List.mem_range] at hz
  obtain ⟨k, hk, rfl⟩ := hz
  unfold Lin.mu
  rw [Int.natAbs_mul]
  have h2 : (Lin.ngo k).natAbs = 1 := by rw [ngo_mod]; by_cases e : k % 2 = 1 <;> simp [e]
  rw [h2, Nat.one_mul, fm_length]
  have h5 : Lin.fb 60 5 = 93312000000 := by decide
  have m2 : Lin.fb 60 (pickL c m).length ≤ Lin.fb 60 5 := fb_mono (by decide) (by have := hx.c5; omega)
  have hb := Lin.od_bd (n := (pickL c m).length) (B := 60) (Lin.cols (fm (pickL c m)) (Lin.skp k)) (fun _ => false) (fun r hr j hj => by
    simp only [Lin.cols, fm, List.mem_map] at hr
    obtain ⟨_, ⟨l, hl', rfl⟩, rfl⟩ := hr
    by_cases hi : Lin.skp k j < l.length
    · exact hx.bd l (pickL_mem hl') _ (by simp [hi])
    · simp only [List.getD_eq_getElem?_getD]; rw [List.getElem?_eq_none (by omega)]; simp) (by rw [Lin.cu_none]; simp [Lin.cols, fm])
  have hl2 : (Lin.cols (fm (pickL c m)) (Lin.skp k)).length = (pickL c m).length := by simp [Lin.cols, fm]
  rw [hl2] at hb
  omega

theorem norm_bd {c : Nat} {m : List (List Int)} (hx : Mx c 60 m) : ∀ z ∈ normL c m, z.natAbs ≤ 1000000000000 := by
  intro z hz
  unfold normL at hz
  split at hz
  · rename_i hl
    exact upr_bd (low_bd (mu_small hx hl)) z hz
  · simp at hz

end Go.Proofs.YtgfnmkenpgnllaaGreat
