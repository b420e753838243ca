/- What is between two points; what lies far out. -/
import Derived.Test.YtpbahagfhkpfhaaGreatHulY
import Derived.Test.YtpbahagfhkpfhaaGreatRefA
namespace Go.Proofs.YtpbahagfhkpfhaaGreat
open Lin

theorem full_of_span {d : Nat} {P : List (List Int)} (hP : ∀ y ∈ P, y.length = d) (h : ∀ c : Nat → Int, (∀ y ∈ P, ∀ z ∈ P, dot d c (V y) = dot d c (V z)) → ∀ i, i < d → c i = 0) : (pickL d (diffL P)).length = d := by
  have hgr := pick_greedy d (diffL P)
  have := (greedy_full hgr).2 (fun v hv => h v fun y hy z hz => by
    have key : ∀ y ∈ P, dot d v (V y) = dot d v (V (P.getD 0 [])) := fun y hy => by
      cases hPe : P with
      | nil => rw [hPe] at hy; simp at hy
      | cons p0 P' =>
        rw [hPe] at hy
        rcases List.mem_cons.1 hy with rfl | hy
        · rfl
        · have h1 := hv (V (subL y p0)) (mem_fm.2 ⟨_, by rw [hPe]; simp only [diffL, List.drop_succ_cons, List.drop_zero]; exact List.mem_map.2 ⟨y, hy, rfl⟩, rfl⟩)
          rw [dot_comm, dot_subL v (hP y (by rw [hPe]; simp [hy]))] at h1
          show dot d v (V y) = dot d v (V p0)
          omega
    rw [key y hy, key z hz])
  rw [fm_length] at this
  exact this

theorem dot_spk {n k : Nat} (hk : k < n) (v : Nat → Int) : dot n v (V (spk n k)) = v k * (1 + ((k % 2 : Nat) : Int)) := by
  unfold dot
  rw [sumN_one hk (fun i hi hne => by simp [V, spk, hi, hne])]
  simp [V, spk, hk]

theorem dot_zeros (n : Nat) (v : Nat → Int) : dot n v (V (zerosL n)) = 0 := by
  unfold dot
  exact sumN_zero fun i hi => by simp [V, zerosL, hi]

theorem poly_len (n : Nat) (m : List (List Int)) : (polyL n m).length = m.length + 1 + n := by simp [polyL]; omega

theorem poly_box {n wd : Nat} {m : List (List Int)} (hm : Box n wd m) (hw : wd ≤ 15) : Box n 15 (polyL n m) := by
  intro r hr
  simp only [polyL, List.mem_append, List.mem_singleton, List.mem_map, List.mem_range] at hr
  rcases hr with (hr | rfl) | ⟨k, hk, rfl⟩
  · refine ⟨(hm r hr).1, fun z hz => ?_⟩
    have := (hm r hr).2 z hz
    omega
  · refine ⟨by simp [zerosL], fun z hz => ?_⟩
    simp only [zerosL, List.mem_map] at hz
    obtain ⟨_, _, rfl⟩ := hz
    omega
  · refine ⟨by simp [spk], fun z hz => ?_⟩
    simp only [spk, List.mem_map] at hz
    obtain ⟨j, _, rfl⟩ := hz
    have := Nat.mod_lt k (show 0 < 2 by decide)
    split <;> omega

theorem poly_span {n : Nat} {m : List (List Int)} (c : Nat → Int) (h : ∀ y ∈ polyL n m, ∀ z ∈ polyL n m, dot n c (V y) = dot n c (V z)) : ∀ i, i < n → c i = 0 := by
  intro i hi
  have h1 := h (spk n i) (by simp [polyL]; right; right; exact ⟨i, hi, rfl⟩) (zerosL n) (by simp [polyL])
  rw [dot_spk hi, dot_zeros] at h1
  rcases Int.mul_eq_zero.1 h1 with h2 | h2
  · exact h2
  · omega

theorem poly_good {n wd : Nat} {m : List (List Int)} (h1 : 1 ≤ n) (h4 : n ≤ 4) (hm : Box n wd m) (hw : wd ≤ 15) (hl : m.length ≤ 10) : Good n (polyL n m) := by
  have hb := poly_box hm hw
  refine ⟨h1, h4, by rw [poly_len]; omega, by rw [poly_len]; omega, fun r hr => ⟨(hb r hr).1, fun z hz => by have := (hb r hr).2 z hz; omega⟩, full_of_span (fun y hy => (hb y hy).1) (fun c hc => poly_span c hc)⟩

end Go.Proofs.YtpbahagfhkpfhaaGreat
