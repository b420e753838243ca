/- TropicLeast: any square. -/
import Derived.Test.YtbecmbjmkibmmaaTw8
import Derived.Test.YtbecmbjmkibmmaaTw10
import Derived.Test.YtbecmbjmkibmmaaHv1
namespace Go.Proofs.Ytbecmbjmkibmmaa
open Go.RowKit
attribute [local go_sem ↓] Go.wp_at_zero Go.wp_at_succ

theorem sum_getT : ∀ (V : List Int), V.sum = sumF (fun j => V.getD j 0) V.length := by
  intro V
  rw [sumF_list]
  congr 1
  refine List.ext_getElem (by simp) fun i h1 h2 => ?_
  simp [h1]

/-- What Prices answers is fair. -/
structure Fair (M : List (List Int)) : Prop where
  rl : (prR M).length = M.length
  cl : (prC M).length = M.length
  rb : ∀ z ∈ prR M, z.natAbs ≤ 130000
  cb : ∀ z ∈ prC M, z.natAbs ≤ 130000
  sum : (prR M).sum + (prC M).sum = (leastQ M).1
  fair : ∀ i j, i < M.length → j < M.length → (prR M).getD i 0 + (prC M).getD j 0 ≤ ent M i j

theorem fair_ok {M : List (List Int)} (h : sqE M = 0) : Fair M := by
  obtain ⟨hl, hb⟩ := leastC_ok h
  have eR : prR M = prU M (leastQ M).2 (rnds M (fun i => ((leastQ M).2.getD i 0).toNat) M.length M.length) := if_pos h
  have eC : prC M = rnds M (fun i => ((leastQ M).2.getD i 0).toNat) M.length M.length := if_pos h
  have hP := prc_rnds hl M.length
  have hVl : (rnds M (fun i => ((leastQ M).2.getD i 0).toNat) M.length M.length).length = M.length := by
    obtain ⟨L, _, _, h3⟩ := hP
    exact h3.1
  have hlt : ∀ i, i < M.length → ((leastQ M).2.getD i 0).toNat < M.length := fun i hi => hl.ins.lt i hi
  have hRi : ∀ i, i < M.length → (prR M).getD i 0 = ent M i ((leastQ M).2.getD i 0).toNat - (prC M).getD ((leastQ M).2.getD i 0).toNat 0 := fun i hi => by
    rw [eR, eC]
    simp only [prU]
    rw [List.getD_eq_getElem?_getD, List.getElem?_map, List.getElem?_range hi]
    rfl
  have hCj : ∀ j, j < M.length → -120000 ≤ (prC M).getD j 0 ∧ (prC M).getD j 0 ≤ 0 := fun j hj => by rw [eC]; exact hP.bd hl hj
  have hrl : (prR M).length = M.length := by rw [eR]; exact prU_len _ _ _
  have hcl : (prC M).length = M.length := by rw [eC]; exact hVl
  have hmem : ∀ (l : List Int) z, z ∈ l → ∃ i, i < l.length ∧ l.getD i 0 = z := fun l z hz => by
    obtain ⟨i, hi, rfl⟩ := List.getElem_of_mem hz
    exact ⟨i, hi, by simp [hi]⟩
  refine ⟨hrl, hcl, fun z hz => ?_, fun z hz => ?_, ?_, fun i j hi hj => ?_⟩
  · obtain ⟨i, hi, rfl⟩ := hmem _ z hz
    rw [hrl] at hi
    rw [hRi i hi]
    have h1 := hl.sq.ent (i := i) (j := ((leastQ M).2.getD i 0).toNat)
    have h2 := hCj _ (hlt i hi)
    omega
  · obtain ⟨i, hi, rfl⟩ := hmem _ z hz
    rw [hcl] at hi
    have h2 := hCj _ hi
    omega
  · have h1 := rnds_even (M := M) hl.ins (prC M)
    rw [sum_getT (prC M), hcl, hb]
    have e : (prR M).sum = sumF (fun i => ent M i ((leastQ M).2.getD i 0).toNat - (prC M).getD ((leastQ M).2.getD i 0).toNat 0) M.length := by
      rw [sumF_list, eR, eC]
      rfl
    rw [e]
    exact h1
  · rw [hRi i hi, eC]
    exact rnds_fair (M := M) hl.ins hl.min hl.low hi hj

end Go.Proofs.Ytbecmbjmkibmmaa
