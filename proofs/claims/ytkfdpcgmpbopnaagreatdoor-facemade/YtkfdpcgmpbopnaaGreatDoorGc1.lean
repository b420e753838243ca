/- What is divided by what divides all of it (pure; the same as in Pq3: not beside it). -/
import Derived.Test.YtkfdpcgmpbopnaaGreatDoorNrm
namespace Go.Proofs.YtkfdpcgmpbopnaaGreatDoor
open Lin

theorem gc_pos {l : List Int} {z : Int} (h : z ∈ l) (hz : z ≠ 0) : gc l ≠ 0 := fun e => by
  have := gc_dvd h
  rw [e] at this
  exact hz (by simpa using this)

theorem low_mul (l : List Int) : (low l).map ((gc l : Int) * ·) = l := by
  unfold low
  rw [List.map_map]
  have : ∀ z ∈ l, (((gc l : Int) * ·) ∘ (· / (gc l : Int))) z = z := fun z hz => by
    show (gc l : Int) * (z / (gc l : Int)) = z
    exact Int.mul_ediv_cancel' (gc_dvd hz)
  rw [List.map_congr_left this, List.map_id']

theorem gc_low {l : List Int} (h : gc l ≠ 0) : gc (low l) = 1 := by
  have e := gc_scale (gc l : Int) (low l)
  rw [low_mul] at e
  simp only [Int.natAbs_natCast] at e
  have h2 : gc l * 1 = gc l * gc (low l) := by omega
  exact (Nat.eq_of_mul_eq_mul_left (Nat.pos_of_ne_zero h) h2).symm

theorem neg_scale (l : List Int) : (l.map fun z => -z) = l.map ((-1 : Int) * ·) := List.map_congr_left fun z _ => by omega

theorem gc_neg (l : List Int) : gc (l.map fun z => -z) = gc l := by
  rw [neg_scale, gc_scale]
  simp

theorem gc_upr (l : List Int) : gc (upr l) = gc l := by
  unfold upr
  split
  · exact gc_neg l
  · rfl

theorem gc_snoc1 {l : List Int} {b : Int} (h : gc l = 1) : gc (l ++ [b]) = 1 := by
  have hd : ∀ z ∈ l, ((gc (l ++ [b]) : Nat) : Int) ∣ z := fun z hz => gc_dvd (List.mem_append_left _ hz)
  have e : (l.map (· / ((gc (l ++ [b]) : Nat) : Int))).map (((gc (l ++ [b]) : Nat) : Int) * ·) = l := by
    rw [List.map_map]
    have : ∀ z ∈ l, ((((gc (l ++ [b]) : Nat) : Int) * ·) ∘ (· / ((gc (l ++ [b]) : Nat) : Int))) z = z := fun z hz => Int.mul_ediv_cancel' (hd z hz)
    rw [List.map_congr_left this, List.map_id']
  have e2 := gc_scale ((gc (l ++ [b]) : Nat) : Int) (l.map (· / ((gc (l ++ [b]) : Nat) : Int)))
  rw [e, h] at e2
  simp only [Int.natAbs_natCast] at e2
  exact Nat.eq_one_of_mul_eq_one_right e2.symm

theorem low_one {l : List Int} (h : gc l = 1) : low l = l := by
  unfold low
  rw [h]
  simp

theorem upr_or (l : List Int) : upr l = l ∨ upr l = l.map fun z => -z := by
  unfold upr
  split
  · exact Or.inr rfl
  · exact Or.inl rfl

theorem neg_neg_map (l : List Int) : (l.map fun z => -z).map (fun z => -z) = l := by
  rw [List.map_map]
  have : ∀ z ∈ l, ((fun z : Int => -z) ∘ fun z => -z) z = z := fun z _ => Int.neg_neg z
  rw [List.map_congr_left this, List.map_id']

theorem prim_eq {x y : List Int} {a b : Int} (hx : gc x = 1) (hy : gc y = 1) (ha : a ≠ 0) (hb : b ≠ 0) (h : x.map (a * ·) = y.map (b * ·)) : x = y ∨ x = y.map fun z => -z := by
  have e := norm_eq ha hb h
  rw [low_one hx, low_one hy] at e
  rcases upr_or x with h1 | h1 <;> rcases upr_or y with h2 | h2
  · exact Or.inl (by rw [← h1, e, h2])
  · exact Or.inr (by rw [← h1, e, h2])
  · refine Or.inr ?_
    have : (x.map fun z => -z) = y := by rw [← h1, e, h2]
    rw [← this, neg_neg_map]
  · refine Or.inl ?_
    have : (x.map fun z => -z) = y.map fun z => -z := by rw [← h1, e, h2]
    rw [← neg_neg_map x, this, neg_neg_map]

theorem norm_gc {d : Nat} {m : List (List Int)} (hl : (pickL d m).length + 1 = d) : gc (normL d m) = 1 := by
  obtain ⟨⟨i, hi, hne⟩, _, _⟩ := norm_spec hl
  have hnl : normL d m = upr (low (muL d (pickL d m))) := if_pos hl
  have hmem : V (normL d m) i ∈ normL d m := by
    unfold V
    have hlen : (normL d m).length = d := norm_len (by unfold normB; exact decide_eq_true hl)
    simp [show i < (normL d m).length by omega]
  have h0 := gc_pos hmem hne
  rw [hnl, gc_upr] at h0 ⊢
  refine gc_low fun e => h0 ?_
  have hz : ∀ z ∈ muL d (pickL d m), z = 0 := fun z hz => by
    have := gc_dvd hz
    rw [e] at this
    simpa using this
  have hl0 : low (muL d (pickL d m)) = muL d (pickL d m) := by
    unfold low
    have : ∀ z ∈ muL d (pickL d m), z / ((gc (muL d (pickL d m)) : Nat) : Int) = id z := fun z h => by rw [hz z h]; simp
    rw [List.map_congr_left this, List.map_id]
  rw [hl0]
  exact e

end Go.Proofs.YtkfdpcgmpbopnaaGreatDoor
