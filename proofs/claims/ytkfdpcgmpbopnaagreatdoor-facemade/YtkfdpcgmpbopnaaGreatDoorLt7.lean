/- A polytope has a side; the law ShellMade: the walk. -/
import Derived.Test.YtkfdpcgmpbopnaaGreatDoorLt6
import Derived.Test.YtkfdpcgmpbopnaaGreatDoorSh12
import Derived.Test.YtkfdpcgmpbopnaaGreatDoorPik
import Derived.Test.YtkfdpcgmpbopnaaGreatDoorBet3
namespace Go.Proofs.YtkfdpcgmpbopnaaGreatDoor
open Lin

/-- A row meets one of the points that it comes of. -/
theorem row_meets {d : Nat} {C : List (List Int)} (hg : Good d C) {r : List Int} (hr : r ∈ rowsC C [] d C) : ∃ y ∈ C, r.getD d 0 = dot d (V r) (V y) := by
  obtain ⟨t, hts, htl, hrt⟩ := mem_rowsC.1 hr
  obtain ⟨σ, hσ, hnb, hre⟩ := rowT_form htl hrt
  have hal := norm_len hnb
  have hd1 := hg.d1
  have hVr : ∀ i, i < d → V r i = σ * V (normL d (diffL t)) i := fun i hi => by
    rw [hre]
    have h := V_map (normL d (diffL t) ++ [dotL (normL d (diffL t)) (t.getD 0 [])]) σ i
    rw [h, (row_app hal).2.2.2 i hi]
  have hlast : r.getD d 0 = σ * dotL (normL d (diffL t)) (t.getD 0 []) := by
    rw [hre]
    have h := V_map (normL d (diffL t) ++ [dotL (normL d (diffL t)) (t.getD 0 [])]) σ d
    simp only [V] at h
    rw [h, (row_app hal).2.2.1]
  refine ⟨t.getD 0 [], hts.subset (by simp [show 0 < t.length by omega]), ?_⟩
  rw [hlast, dotL_eq hal]
  unfold dot
  rw [← sumN_mul]
  exact (sumN_congr fun i hi => by rw [hVr i hi, Int.mul_assoc]).symm

theorem mem_side {C : List (List Int)} {r : List Int} (hC : C.length ≤ 16) {y : List Int} : y ∈ pks C [] (memL (sdN C r)) ↔ y ∈ C ∧ overL r y = 0 := by
  have hlt : sdN C r < 2 ^ 64 := Nat.lt_of_lt_of_le (sdTo_lt C r C.length) (Nat.pow_le_pow_right (by decide) (by omega))
  unfold pks
  simp only [List.mem_map]
  constructor
  · rintro ⟨x, hx, rfl⟩
    obtain ⟨k, rfl, hk⟩ := (mem_memL hlt).1 hx
    unfold sdN at hk
    rw [sdTo_bit] at hk
    simp only [Bool.and_eq_true, decide_eq_true_eq] at hk
    rw [show ((k : Int)).toNat = k by omega]
    exact ⟨by simp [hk.1], hk.2⟩
  · rintro ⟨hy, ho⟩
    obtain ⟨k, hk, rfl⟩ := List.mem_iff_getElem.1 hy
    have e : C.getD k [] = C[k] := by simp [hk]
    refine ⟨(k : Int), (mem_memL hlt).2 ⟨k, rfl, ?_⟩, by rw [show ((k : Int)).toNat = k by omega]; exact e⟩
    unfold sdN
    rw [sdTo_bit, e]
    simp [hk, ho]

/-- There is a side. -/
theorem side_there {B d : Nat} {P : List (List Int)} {w : World} {x : Value} {C s : List (List Int)} {A : List Nat} (h : Lat B d P w x C s A) (hg : Good d C) (hC : C.length ≤ 16) : ∃ a ∈ A, dimL d C a = (d : Int) - 1 := by
  obtain ⟨r, hr⟩ := row_some hg
  have hrs : r ∈ s := (h.rows.2 r).2 (mem_rowsD.2 hr)
  have hlt := sdTo_lt C r C.length
  have hmem := h.all.cl 0 h.all.hd.1 (sdN C r) (List.mem_map.2 ⟨r, hrs, rfl⟩)
  rw [h.all.hd.2, Nat.and_comm, Nat.and_two_pow_sub_one_eq_mod, Nat.mod_eq_of_lt (show sdN C r < 2 ^ C.length from hlt)] at hmem
  refine ⟨sdN C r, hmem, ?_⟩
  have hd5 : d ≤ 5 := by have := hg.d4; omega
  have hrow := rowsC_fit hg.box hg.d1 hd5 (fun _ => Iff.rfl) hr
  have hz : ∀ y ∈ C, (overL r y = 0 ↔ r.getD d 0 = dot d (V r) (V y)) := fun y hy => over_zero hrow.len (hg.box y hy).1
  have hrk := side_rank hg hr (p := pks C [] (memL (sdN C r))) (fun y => by
    rw [mem_side hC]
    exact and_congr_right fun hy => hz y hy)
  obtain ⟨y, hy, hty⟩ := row_meets hg hr
  have hin : y ∈ pks C [] (memL (sdN C r)) := (mem_side hC).2 ⟨hy, (hz y hy).2 hty⟩
  have hne : memL (sdN C r) ≠ [] := by
    intro h0
    rw [h0] at hin
    simp [pks] at hin
  unfold dimL
  rw [if_neg hne]
  omega

/-- Two rows change places. -/
theorem swap_rows {w : World} {g cap : Nat} {f : Nat → Value} {m : List (List Int)} (h : RowM w g cap f m) {i j : Nat} (hi : i < m.length) (hj : j < m.length) :
    ∃ m2, Mat ((w.setCell ⟨g, i, none⟩ (f j)).setCell ⟨g, j, none⟩ (f i)).heap.size 22 3 ((w.setCell ⟨g, i, none⟩ (f j)).setCell ⟨g, j, none⟩ (f i)) (.slice (some ⟨g, 0, none⟩) m.length cap) m2 := by
  have ht : Touch g w ((w.setCell ⟨g, i, none⟩ (f j)).setCell ⟨g, j, none⟩ (f i)) := ((Touch.refl _ _).setCell i _).setCell j _
  obtain ⟨cur, hcur, _⟩ := h.row
  have hin : ∀ k, k < m.length → Sl 0 3 ((w.setCell ⟨g, i, none⟩ (f j)).setCell ⟨g, j, none⟩ (f i)) (f k) (ints (m.getD k [])) := fun k hk => ht.sl hcur (h.inn k hk)
  have hrow := (h.row.set i (f j)).set j (f i)
  have hl : ((List.range m.length).map fun k => if k = j then m.getD i [] else if k = i then m.getD j [] else m.getD k []).length = m.length := by simp
  have hr : RowM ((w.setCell ⟨g, i, none⟩ (f j)).setCell ⟨g, j, none⟩ (f i)) g cap (fun q => if q = j then f i else if q = i then f j else f q) ((List.range m.length).map fun k => if k = j then m.getD i [] else if k = i then m.getD j [] else m.getD k []) := by
    refine ⟨hrow, by rw [hl]; exact h.cap1, h.cap2, fun k hk => ?_⟩
    rw [hl] at hk
    have e : ((List.range m.length).map fun k => if k = j then m.getD i [] else if k = i then m.getD j [] else m.getD k []).getD k [] = if k = j then m.getD i [] else if k = i then m.getD j [] else m.getD k [] := by simp [hk]
    rw [e]
    by_cases h1 : k = j
    · rw [if_pos h1, if_pos h1]
      exact hin i hi
    · rw [if_neg h1, if_neg h1]
      by_cases h2 : k = i
      · rw [if_pos h2, if_pos h2]
        exact hin j hj
      · rw [if_neg h2, if_neg h2]
        exact hin k hk
  have hf := hr.fr (B := 0) (Nat.zero_le _)
  rw [hl] at hf
  exact ⟨_, hf.rws.mat (Nat.zero_le _)⟩

open Go.RowKit
attribute [local go_sem ↓] Go.wp_at_zero Go.wp_at_succ

theorem poly_field (a b : Value) (w : World) : (Instr.field 27 (.agg #[a, b]) 1).run Tryz.prog w = .ok b w := by kernel_rfl

theorem poly_boxS {n wd : Nat} {m : List (List Int)} (hm : Box n wd m) (hw : wd ≤ 6) : Box n 6 (polyL n m) := by
  intro r hr
  simp only [polyL, List.mem_append, List.mem_singleton, List.mem_map, List.mem_range] at hr
  rcases hr with (hr | rfl) | ⟨k, hk, rfl⟩
  · refine ⟨(hm r hr).1, fun z hz => ?_⟩
    have := (hm r hr).2 z hz
    omega
  · refine ⟨by simp [zerosL], fun z hz => ?_⟩
    simp only [zerosL, List.mem_map] at hz
    obtain ⟨_, _, rfl⟩ := hz
    omega
  · refine ⟨by simp [spk], fun z hz => ?_⟩
    simp only [spk, List.mem_map] at hz
    obtain ⟨j, _, rfl⟩ := hz
    have := Nat.mod_lt k (show 0 < 2 by decide)
    split <;> omega

end Go.Proofs.YtkfdpcgmpbopnaaGreatDoor
