/- Kinds and short counts: the program's are the document's (pure). -/
import Derived.Test.YtkfdpcgmpbopnaaGreatDoorFd3
namespace Go.Proofs.YtkfdpcgmpbopnaaGreatDoor
open Go.RowKit Lin

theorem kind_simplicial {d : Nat} {P C s : List (List Int)} {A' : List Nat} (h : FndS d P C s) (hD : DocF d P C s A') {lev : List (List Int)} (hl : LevOk d C A' d lev) : kdA d lev = splB d (s.map (sdN C)) := by
  have hp := doc_sides h hD hl
  rw [Bool.eq_iff_iff]
  unfold kdA splB
  rw [List.all_eq_true, List.all_eq_true]
  constructor
  · intro h1 x hx
    exact h1 (memL x) (hp.mem_iff.2 (List.mem_map.2 ⟨x, hx, rfl⟩))
  · intro h1 r hr
    obtain ⟨x, hx, rfl⟩ := List.mem_map.1 (hp.mem_iff.1 hr)
    exact h1 x hx

theorem kind_count {d : Nat} {P C s : List (List Int)} {A' : List Nat} (h : FndS d P C s) (hD : DocF d P C s A') {lev : List (List Int)} (hl : LevOk d C A' d lev) (v : Nat) : (kdN lev v : Int) = cnA (s.map (sdN C)) (s.map (sdN C)).length v := by
  have hp := doc_sides h hD hl
  unfold kdN cnA
  rw [List.take_length, (hp.filter _).length_eq, List.filter_map, List.length_map]
  congr 2
  refine List.filter_congr fun x hx => ?_
  obtain ⟨r, _, rfl⟩ := List.mem_map.1 hx
  have hlt : sdN C r < 2 ^ 64 := Nat.lt_of_lt_of_le (sdTo_lt C r C.length) (Nat.pow_le_pow_right (by decide) (by have := h.n10; omega))
  rw [Bool.eq_iff_iff]
  simp only [Function.comp_apply, List.contains_iff_mem]
  rw [mem_memL hlt]
  constructor
  · rintro ⟨k, hk, hb⟩
    have : v = k := by omega
    subst this
    exact hb
  · intro hb
    exact ⟨v, rfl, hb⟩

theorem kind_simple {d : Nat} {P C s : List (List Int)} {A' : List Nat} (h : FndS d P C s) (hD : DocF d P C s A') {lev lev1 : List (List Int)} (hl : LevOk d C A' d lev) (hl1 : LevOk d C A' 1 lev1) : kdB d lev lev1.length = smpB d C.length (s.map (sdN C)) := by
  rw [doc_verts h hD hl1]
  unfold kdB smpB
  rw [Bool.eq_iff_iff, List.all_eq_true, List.all_eq_true]
  have hk := kind_count h hD hl
  constructor
  · intro h1 v hv
    have := h1 v hv
    simp only [decide_eq_true_eq] at this ⊢
    rw [← hk v]
    omega
  · intro h1 v hv
    have := h1 v hv
    simp only [decide_eq_true_eq] at this ⊢
    rw [← hk v] at this
    omega

/-- The sum, term by term, is what (1 - x) taken again and again gives. -/
theorem short_same (c : Nat → Int) {d j : Nat} (h1 : 1 ≤ d) (h4 : d ≤ 4) (hj : j ≤ d) : smD c d (d + 1) j = hvN c (d + 1) j := by
  have hd : d = 1 ∨ d = 2 ∨ d = 3 ∨ d = 4 := by omega
  rcases hd with rfl | rfl | rfl | rfl
  · have : j = 0 ∨ j = 1 := by omega
    rcases this with rfl | rfl <;> simp [smD, dltN, dlt, one1, hvN] <;> omega
  · have : j = 0 ∨ j = 1 ∨ j = 2 := by omega
    rcases this with rfl | rfl | rfl <;> simp [smD, dltN, dlt, one1, hvN] <;> omega
  · have : j = 0 ∨ j = 1 ∨ j = 2 ∨ j = 3 := by omega
    rcases this with rfl | rfl | rfl | rfl <;> simp [smD, dltN, dlt, one1, hvN] <;> omega
  · have : j = 0 ∨ j = 1 ∨ j = 2 ∨ j = 3 ∨ j = 4 := by omega
    rcases this with rfl | rfl | rfl | rfl | rfl <;> simp [smD, dltN, dlt, one1, hvN] <;> omega

end Go.Proofs.YtkfdpcgmpbopnaaGreatDoor
