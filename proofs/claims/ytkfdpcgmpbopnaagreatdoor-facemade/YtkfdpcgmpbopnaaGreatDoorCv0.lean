/- The normal when the last column's sign is turned (pure). -/
import Derived.Test.YtkfdpcgmpbopnaaGreatDoorNrm
namespace Go.Proofs.YtkfdpcgmpbopnaaGreatDoor
open Lin

/-- Just one direction is 0 with all rows. -/
def OneDir (d : Nat) (m : List (List Int)) : Prop :=
  ∃ a : Nat → Int, (∃ i, i < d ∧ a i ≠ 0) ∧ (∀ r ∈ m, dot d (V r) a = 0) ∧ ∀ u : Nat → Int, (∀ r ∈ m, dot d (V r) u = 0) → Par d u a

theorem norm_one_iff {d : Nat} {m : List (List Int)} : normB d m = true ↔ OneDir d m := by
  constructor
  · intro h
    have hl : (pickL d m).length + 1 = d := by simpa [normB] using h
    obtain ⟨h0, h1, h2⟩ := norm_spec hl
    exact ⟨_, h0, h1, h2⟩
  · rintro ⟨a, h0, h1, h2⟩
    have hc := greedy_count (pick_greedy d m) (a := a) h0 (fun r hr => by
      obtain ⟨l, hl, rfl⟩ := mem_fm.1 hr
      exact h1 l hl) (fun u hu => h2 u (fun r hr => hu (V r) (mem_fm.2 ⟨r, hr, rfl⟩)))
    rw [fm_length] at hc
    simpa [normB] using hc

/-- A direction with its last number turned. -/
def turnK (n : Nat) (u : Nat → Int) : Nat → Int := fun i => if i = n then - u i else u i

theorem turnK_twice (n : Nat) (u : Nat → Int) : turnK n (turnK n u) = u := by
  funext i; unfold turnK; split <;> simp

theorem turnK_zero {n : Nat} {u : Nat → Int} {i : Nat} : turnK n u i = 0 ↔ u i = 0 := by
  unfold turnK; split <;> omega

theorem turnK_par {d n : Nat} {u a : Nat → Int} (h : Par d u a) : Par d (turnK n u) (turnK n a) := by
  intro i j hi hj
  have := h i j hi hj
  unfold turnK
  split <;> split <;> grind

/-- Two tables, the one's directions those of the other with the last number turned. -/
theorem one_turn {d n : Nat} {m m' : List (List Int)} (h : ∀ u : Nat → Int, (∀ r ∈ m, dot d (V r) u = 0) ↔ ∀ r ∈ m', dot d (V r) (turnK n u) = 0) : normB d m = normB d m' := by
  rw [Bool.eq_iff_iff, norm_one_iff, norm_one_iff]
  constructor
  · rintro ⟨a, ⟨i, hi, h0⟩, h1, h2⟩
    refine ⟨turnK n a, ⟨i, hi, fun e => h0 (turnK_zero.1 e)⟩, (h a).1 h1, fun u hu => ?_⟩
    have := h2 (turnK n u) ((h _).2 (by rw [turnK_twice]; exact hu))
    have := turnK_par (n := n) this
    rw [turnK_twice] at this
    exact this
  · rintro ⟨a, ⟨i, hi, h0⟩, h1, h2⟩
    refine ⟨turnK n a, ⟨i, hi, fun e => h0 (turnK_zero.1 e)⟩, (h _).2 (by rw [turnK_twice]; exact h1), fun u hu => ?_⟩
    have := turnK_par (n := n) (h2 _ ((h u).1 hu))
    rw [turnK_twice] at this
    exact this

/-- And so the normals are the same, but for the last number's sign and which way they look. -/
theorem norm_turn {d n : Nat} {m m' : List (List Int)} (h : ∀ u : Nat → Int, (∀ r ∈ m, dot d (V r) u = 0) ↔ ∀ r ∈ m', dot d (V r) (turnK n u) = 0) (hb : normB d m = true) :
    Par d (turnK n (V (normL d m))) (V (normL d m')) := by
  have hb' : normB d m' = true := by rw [← one_turn h]; exact hb
  have hl : (pickL d m).length + 1 = d := by simpa [normB] using hb
  have hl' : (pickL d m').length + 1 = d := by simpa [normB] using hb'
  exact (norm_spec hl').2.2 _ ((h _).1 (norm_spec hl).2.1)

/-- Number by number what the rows and, behind them, the goal have: its sign not turned. -/
def docR (rs : List (List Int)) (g : List Int) (i : Nat) : List Int := (rs ++ [g]).map fun r => r.getD i 0
def docL (g : List Int) (rs : List (List Int)) : List (List Int) := (List.range g.length).map (docR rs g)

theorem acr_dot (rs : List (List Int)) (g : List Int) (i : Nat) (u : Nat → Int) : dot (rs.length + 1) (V (acrR rs g i)) u = dot (rs.length + 1) (V (docR rs g i)) (turnK rs.length u) := by
  unfold dot
  refine sumN_congr fun j hj => ?_
  unfold V acrR docR turnK
  rw [List.map_append]
  by_cases e : j = rs.length
  · subst e
    have e1 : (rs.map (fun r => r.getD i 0) ++ [-(g.getD i 0)]).getD rs.length 0 = -(g.getD i 0) := by
      rw [List.getD_eq_getElem?_getD, List.getElem?_append_right (by simp)]; simp
    have e2 : (rs.map (fun r => r.getD i 0) ++ [g].map (fun r => r.getD i 0)).getD rs.length 0 = g.getD i 0 := by
      rw [List.getD_eq_getElem?_getD, List.getElem?_append_right (by simp)]; simp
    rw [e1, e2, if_pos rfl]
    grind
  · have e1 : (rs.map (fun r => r.getD i 0) ++ [-(g.getD i 0)]).getD j 0 = (rs.map (fun r => r.getD i 0)).getD j 0 := by
      rw [List.getD_eq_getElem?_getD, List.getElem?_append_left (by simp; omega)]; rfl
    have e2 : (rs.map (fun r => r.getD i 0) ++ [g].map (fun r => r.getD i 0)).getD j 0 = (rs.map (fun r => r.getD i 0)).getD j 0 := by
      rw [List.getD_eq_getElem?_getD, List.getElem?_append_left (by simp; omega)]; rfl
    rw [e1, e2, if_neg e]

theorem acr_turn (rs : List (List Int)) (g : List Int) (u : Nat → Int) : (∀ r ∈ acrL g rs, dot (rs.length + 1) (V r) u = 0) ↔ ∀ r ∈ docL g rs, dot (rs.length + 1) (V r) (turnK rs.length u) = 0 := by
  constructor
  · intro h r hr
    simp only [docL, List.mem_map] at hr
    obtain ⟨i, hi, rfl⟩ := hr
    rw [← acr_dot]
    exact h _ (by simp only [acrL, List.mem_map]; exact ⟨i, hi, rfl⟩)
  · intro h r hr
    simp only [acrL, List.mem_map] at hr
    obtain ⟨i, hi, rfl⟩ := hr
    rw [acr_dot]
    exact h _ (by simp only [docL, List.mem_map]; exact ⟨i, hi, rfl⟩)

/-- There is one way alone by the program's table just if there is by the document's. -/
theorem acr_norm (rs : List (List Int)) (g : List Int) : normB (rs.length + 1) (acrL g rs) = normB (rs.length + 1) (docL g rs) := one_turn (acr_turn rs g)

end Go.Proofs.YtkfdpcgmpbopnaaGreatDoor
