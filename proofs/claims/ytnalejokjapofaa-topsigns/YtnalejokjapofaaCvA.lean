import Derived.Test.YtnalejokjapofaaNrm
/- The normal when the last column's sign is turned (pure). -/
namespace Go.Proofs.Ytnalejokjapofaa
open Lin

/-- Just one direction is 0 with all rows. -/
def OneDir (d : Nat) (m : List (List Int)) : Prop :=
  ∃ a : Nat → Int, (∃ i, i < d ∧ a i ≠ 0) ∧ (∀ r ∈ m, dot d (V r) a = 0) ∧ ∀ u : Nat → Int, (∀ r ∈ m, dot d (V r) u = 0) → Par d u a

theorem norm_one_iff {d : Nat} {m : List (List Int)} : normB d m = true ↔ OneDir d m := by
  constructor
  · intro h
    have hl : (pickL d m).length + 1 = d := by simpa [normB] using h
    obtain ⟨h0, h1, h2⟩ := norm_spec hl
    exact ⟨_, h0, h1, h2⟩
  · rintro ⟨a, h0, h1, h2⟩
    have hc := greedy_count (pick_greedy d m) (a := a) h0 (fun r hr => by
      obtain ⟨l, hl, rfl⟩ := mem_fm.1 hr
      exact h1 l hl) (fun u hu => h2 u (fun r hr => hu (V r) (mem_fm.2 ⟨r, hr, rfl⟩)))
    rw [fm_length] at hc
    simpa [normB] using hc

/-- A direction with its last number turned. -/
def turnK (n : Nat) (u : Nat → Int) : Nat → Int := fun i => if i = n then - u i else u i

theorem turnK_twice (n : Nat) (u : Nat → Int) : turnK n (turnK n u) = u := by
  funext i; unfold turnK; split <;> simp

theorem turnK_zero {n : Nat} {u : Nat → Int} {i : Nat} : turnK n u i = 0 ↔ u i = 0 := by
  unfold turnK; split <;> omega

theorem turnK_par {d n : Nat} {u a : Nat → Int} (h : Par d u a) : Par d (turnK n u) (turnK n a) := by
  intro i j hi hj
  have := h i j hi hj
  unfold turnK
  split <;> split <;> grind

/-- Two tables, the one's directions those of the other with the last number turned. -/
theorem one_turn {d n : Nat} {m m' : List (List Int)} (h : ∀ u : Nat → Int, (∀ r ∈ m, dot d (V r) u = 0) ↔ ∀ r ∈ m', dot d (V r) (turnK n u) = 0) : normB d m = normB d m' := by
  rw [Bool.eq_iff_iff, norm_one_iff, norm_one_iff]
  constructor
  · rintro ⟨a, ⟨i, hi, h0⟩, h1, h2⟩
    refine ⟨turnK n a, ⟨i, hi, fun e => h0 (turnK_zero.1 e)⟩, (h a).1 h1, fun u hu => ?_⟩
    have := h2 (turnK n u) ((h _).2 (by rw [turnK_twice]; exact hu))
    have := turnK_par (n := n) this
    rw [turnK_twice] at this
    exact this
  · rintro ⟨a, ⟨i, hi, h0⟩, h1, h2⟩
    refine ⟨turnK n a, ⟨i, hi, fun e => h0 (turnK_zero.1 e)⟩, (h _).2 (by rw [turnK_twice]; exact h1), fun u hu => ?_⟩
    have := turnK_par (n := n) (h2 _ ((h u).1 hu))
    rw [turnK_twice] at this
    exact this

/-- And so the normals are the same, but for the last number's sign and which way they look. -/
theorem norm_turn {d n : Nat} {m m' : List (List Int)} (h : ∀ u : Nat → Int, (∀ r ∈ m, dot d (V r) u = 0) ↔ ∀ r ∈ m', dot d (V r) (turnK n u) = 0) (hb : normB d m = true) :
    Par d (turnK n (V (normL d m))) (V (normL d m')) := by
  have hb' : normB d m' = true := by rw [← one_turn h]; exact hb
  have hl : (pickL d m).length + 1 = d := by simpa [normB] using hb
  have hl' : (pickL d m').length + 1 = d := by simpa [normB] using hb'
  exact (norm_spec hl').2.2 _ ((h _).1 (norm_spec hl).2.1)

/-- Number by number what the rows and, behind them, the goal have: its sign not turned. -/
def docR (rs : List (List Int)) (g : List Int) (i : Nat) : List Int := (rs ++ [g]).map fun r => r.getD i 0
def docL (g : List Int) (rs : List (List Int)) : List (List Int) := (List.range g.length).map (docR rs g)

theorem acr_dot (rs : List (List Int)) (g : List Int) (i : Nat) (u : Nat → Int) : dot (rs.length + 1) (V (acrR rs g i)) u = dot (rs.length + 1) (V (docR rs g i)) (turnK rs.length u) := by
  unfold dot
  refine sumN_congr fun j hj => ?_
  unfold V acrR docR turnK
  rw [List.map_append]
  by_cases e : j = rs.length
  · subst e
    have e1 : (rs.map (fun r => r.getD i 0) ++ [-(g.getD i 0)]).getD rs.length 0 = -(g.getD i 0) := by
      rw [List.getD_eq_getElem?_getD, List.getElem?_append_right (by simp)]; simp
    have e2 : (rs.map (fun r => r.getD i 0) ++ [g].map (fun r => r.getD i 0)).getD rs.length 0 = g.getD i 0 := by
      rw [List.getD_eq_getElem?_getD, List.getElem?_append_right (by simp)]; simp
    rw [e1, e2, if_pos rfl]
    grind
  · have e1 : (rs.map (fun r => r.getD i 0) ++ [-(g.getD i 0)]).getD j 0 = (rs.map (fun r => r.getD i 0)).getD j 0 := by
      rw [List.getD_eq_getElem?_getD, List.getElem?_append_left (by simp; omega)]; rfl
    have e2 : (rs.map (fun r => r.getD i 0) ++ [g].map (fun r => r.getD i 0)).getD j 0 = (rs.map (fun r => r.getD i 0)).getD j 0 := by
      rw [List.getD_eq_getElem?_getD, List.getElem?_append_left (by simp; omega)]; rfl
    rw [e1, e2, if_neg e]

theorem acr_turn (rs : List (List Int)) (g : List Int) (u : Nat → Int) : (∀ r ∈ acrL g rs, dot (rs.length + 1) (V r) u = 0) ↔ ∀ r ∈ docL g rs, dot (rs.length + 1) (V r) (turnK rs.length u) = 0 := by
  constructor
  · intro h r hr
    simp only [docL, List.mem_map] at hr
    obtain ⟨i, hi, rfl⟩ := hr
    rw [← acr_dot]
    exact h _ (by simp only [acrL, List.mem_map]; exact ⟨i, hi, rfl⟩)
  · intro h r hr
    simp only [acrL, List.mem_map] at hr
    obtain ⟨i, hi, rfl⟩ := hr
    rw [acr_dot]
    exact h _ (by simp only [docL, List.mem_map]; exact ⟨i, hi, rfl⟩)

/-- There is one way alone by the program's table just if there is by the document's. -/
theorem acr_norm (rs : List (List Int)) (g : List Int) : normB (rs.length + 1) (acrL g rs) = normB (rs.length + 1) (docL g rs) := one_turn (acr_turn rs g)

end Go.Proofs.Ytnalejokjapofaa

/- What is divided by what divides all of it (pure; the same as in Pq3: not beside it). -/
namespace Go.Proofs.Ytnalejokjapofaa
open Lin

theorem gc_pos {l : List Int} {z : Int} (h : z ∈ l) (hz : z ≠ 0) : gc l ≠ 0 := fun e => by
  have := gc_dvd h
  rw [e] at this
  exact hz (by simpa using this)

theorem low_mul (l : List Int) : (low l).map ((gc l : Int) * ·) = l := by
  unfold low
  rw [List.map_map]
  have : ∀ z ∈ l, (((gc l : Int) * ·) ∘ (· / (gc l : Int))) z = z := fun z hz => by
    show (gc l : Int) * (z / (gc l : Int)) = z
    exact Int.mul_ediv_cancel' (gc_dvd hz)
  rw [List.map_congr_left this, List.map_id']

theorem gc_low {l : List Int} (h : gc l ≠ 0) : gc (low l) = 1 := by
  have e := gc_scale (gc l : Int) (low l)
  rw [low_mul] at e
  simp only [Int.natAbs_natCast] at e
  have h2 : gc l * 1 = gc l * gc (low l) := by omega
  exact (Nat.eq_of_mul_eq_mul_left (Nat.pos_of_ne_zero h) h2).symm

theorem neg_scale (l : List Int) : (l.map fun z => -z) = l.map ((-1 : Int) * ·) := List.map_congr_left fun z _ => by omega

theorem gc_neg (l : List Int) : gc (l.map fun z => -z) = gc l := by
  rw [neg_scale, gc_scale]
  simp

theorem gc_upr (l : List Int) : gc (upr l) = gc l := by
  unfold upr
  split
  · exact gc_neg l
  · rfl

theorem gc_snoc1 {l : List Int} {b : Int} (h : gc l = 1) : gc (l ++ [b]) = 1 := by
  have hd : ∀ z ∈ l, ((gc (l ++ [b]) : Nat) : Int) ∣ z := fun z hz => gc_dvd (List.mem_append_left _ hz)
  have e : (l.map (· / ((gc (l ++ [b]) : Nat) : Int))).map (((gc (l ++ [b]) : Nat) : Int) * ·) = l := by
    rw [List.map_map]
    have : ∀ z ∈ l, ((((gc (l ++ [b]) : Nat) : Int) * ·) ∘ (· / ((gc (l ++ [b]) : Nat) : Int))) z = z := fun z hz => Int.mul_ediv_cancel' (hd z hz)
    rw [List.map_congr_left this, List.map_id']
  have e2 := gc_scale ((gc (l ++ [b]) : Nat) : Int) (l.map (· / ((gc (l ++ [b]) : Nat) : Int)))
  rw [e, h] at e2
  simp only [Int.natAbs_natCast] at e2
  exact Nat.eq_one_of_mul_eq_one_right e2.symm

theorem low_one {l : List Int} (h : gc l = 1) : low l = l := by
  unfold low
  rw [h]
  simp

theorem upr_or (l : List Int) : upr l = l ∨ upr l = l.map fun z => -z := by
  unfold upr
  split
  · exact Or.inr rfl
  · exact Or.inl rfl

theorem neg_neg_map (l : List Int) : (l.map fun z => -z).map (fun z => -z) = l := by
  rw [List.map_map]
  have : ∀ z ∈ l, ((fun z : Int => -z) ∘ fun z => -z) z = z := fun z _ => Int.neg_neg z
  rw [List.map_congr_left this, List.map_id']

theorem prim_eq {x y : List Int} {a b : Int} (hx : gc x = 1) (hy : gc y = 1) (ha : a ≠ 0) (hb : b ≠ 0) (h : x.map (a * ·) = y.map (b * ·)) : x = y ∨ x = y.map fun z => -z := by
  have e := norm_eq ha hb h
  rw [low_one hx, low_one hy] at e
  rcases upr_or x with h1 | h1 <;> rcases upr_or y with h2 | h2
  · exact Or.inl (by rw [← h1, e, h2])
  · exact Or.inr (by rw [← h1, e, h2])
  · refine Or.inr ?_
    have : (x.map fun z => -z) = y := by rw [← h1, e, h2]
    rw [← this, neg_neg_map]
  · refine Or.inl ?_
    have : (x.map fun z => -z) = y.map fun z => -z := by rw [← h1, e, h2]
    rw [← neg_neg_map x, this, neg_neg_map]

theorem norm_gc {d : Nat} {m : List (List Int)} (hl : (pickL d m).length + 1 = d) : gc (normL d m) = 1 := by
  obtain ⟨⟨i, hi, hne⟩, _, _⟩ := norm_spec hl
  have hnl : normL d m = upr (low (muL d (pickL d m))) := if_pos hl
  have hmem : V (normL d m) i ∈ normL d m := by
    unfold V
    have hlen : (normL d m).length = d := norm_len (by unfold normB; exact decide_eq_true hl)
    simp [show i < (normL d m).length by omega]
  have h0 := gc_pos hmem hne
  rw [hnl, gc_upr] at h0 ⊢
  refine gc_low fun e => h0 ?_
  have hz : ∀ z ∈ muL d (pickL d m), z = 0 := fun z hz => by
    have := gc_dvd hz
    rw [e] at this
    simpa using this
  have hl0 : low (muL d (pickL d m)) = muL d (pickL d m) := by
    unfold low
    have : ∀ z ∈ muL d (pickL d m), z / ((gc (muL d (pickL d m)) : Nat) : Int) = id z := fun z h => by rw [hz z h]; simp
    rw [List.map_congr_left this, List.map_id]
  rw [hl0]
  exact e

end Go.Proofs.Ytnalejokjapofaa
