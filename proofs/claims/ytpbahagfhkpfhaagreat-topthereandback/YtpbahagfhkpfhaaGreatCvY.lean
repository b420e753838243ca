import Derived.Test.YtpbahagfhkpfhaaGreatFkA
import Derived.Test.YtpbahagfhkpfhaaGreatRefY
import Derived.Test.YtpbahagfhkpfhaaGreatRowY
import Derived.Test.YtpbahagfhkpfhaaGreatDatA
import Derived.Deep.OwnRows
/- The normal when the last column's sign is turned (pure). -/
namespace Go.Proofs.YtpbahagfhkpfhaaGreat
open Lin

/-- Just one direction is 0 with all rows. -/
def OneDir (d : Nat) (m : List (List Int)) : Prop :=
  ∃ a : Nat → Int, (∃ i, i < d ∧ a i ≠ 0) ∧ (∀ r ∈ m, dot d (V r) a = 0) ∧ ∀ u : Nat → Int, (∀ r ∈ m, dot d (V r) u = 0) → Par d u a

theorem norm_one_iff {d : Nat} {m : List (List Int)} : normB d m = true ↔ OneDir d m := by
  constructor
  · intro h
    have hl : (pickL d m).length + 1 = d := by simpa [normB] using h
    obtain ⟨h0, h1, h2⟩ := norm_spec hl
    exact ⟨_, h0, h1, h2⟩
  · rintro ⟨a, h0, h1, h2⟩
    have hc := greedy_count (pick_greedy d m) (a := a) h0 (fun r hr => by
      obtain ⟨l, hl, rfl⟩ := mem_fm.1 hr
      exact h1 l hl) (fun u hu => h2 u (fun r hr => hu (V r) (mem_fm.2 ⟨r, hr, rfl⟩)))
    rw [fm_length] at hc
    simpa [normB] using hc

/-- A direction with its last number turned. -/
def turnK (n : Nat) (u : Nat → Int) : Nat → Int := fun i => if i = n then - u i else u i

theorem turnK_twice (n : Nat) (u : Nat → Int) : turnK n (turnK n u) = u := by
  funext i; unfold turnK; split <;> simp

theorem turnK_zero {n : Nat} {u : Nat → Int} {i : Nat} : turnK n u i = 0 ↔ u i = 0 := by
  unfold turnK; split <;> omega

theorem turnK_par {d n : Nat} {u a : Nat → Int} (h : Par d u a) : Par d (turnK n u) (turnK n a) := by
  intro i j hi hj
  have := h i j hi hj
  unfold turnK
  split <;> split <;> grind

/-- Two tables, the one's directions those of the other with the last number turned. -/
theorem one_turn {d n : Nat} {m m' : List (List Int)} (h : ∀ u : Nat → Int, (∀ r ∈ m, dot d (V r) u = 0) ↔ ∀ r ∈ m', dot d (V r) (turnK n u) = 0) : normB d m = normB d m' := by
  rw [Bool.eq_iff_iff, norm_one_iff, norm_one_iff]
  constructor
  · rintro ⟨a, ⟨i, hi, h0⟩, h1, h2⟩
    refine ⟨turnK n a, ⟨i, hi, fun e => h0 (turnK_zero.1 e)⟩, (h a).1 h1, fun u hu => ?_⟩
    have := h2 (turnK n u) ((h _).2 (by rw [turnK_twice]; exact hu))
    have := turnK_par (n := n) this
    rw [turnK_twice] at this
    exact this
  · rintro ⟨a, ⟨i, hi, h0⟩, h1, h2⟩
    refine ⟨turnK n a, ⟨i, hi, fun e => h0 (turnK_zero.1 e)⟩, (h _).2 (by rw [turnK_twice]; exact h1), fun u hu => ?_⟩
    have := turnK_par (n := n) (h2 _ ((h u).1 hu))
    rw [turnK_twice] at this
    exact this

/-- And so the normals are the same, but for the last number's sign and which way they look. -/
theorem norm_turn {d n : Nat} {m m' : List (List Int)} (h : ∀ u : Nat → Int, (∀ r ∈ m, dot d (V r) u = 0) ↔ ∀ r ∈ m', dot d (V r) (turnK n u) = 0) (hb : normB d m = true) :
    Par d (turnK n (V (normL d m))) (V (normL d m')) := by
  have hb' : normB d m' = true := by rw [← one_turn h]; exact hb
  have hl : (pickL d m).length + 1 = d := by simpa [normB] using hb
  have hl' : (pickL d m').length + 1 = d := by simpa [normB] using hb'
  exact (norm_spec hl').2.2 _ ((h _).1 (norm_spec hl).2.1)

end Go.Proofs.YtpbahagfhkpfhaaGreat

/- What is divided by what divides all of it (pure; the same as in Pq3: not beside it). -/
namespace Go.Proofs.YtpbahagfhkpfhaaGreat
open Lin

theorem gc_pos {l : List Int} {z : Int} (h : z ∈ l) (hz : z ≠ 0) : gc l ≠ 0 := fun e => by
  have := gc_dvd h
  rw [e] at this
  exact hz (by simpa using this)

theorem low_mul (l : List Int) : (low l).map ((gc l : Int) * ·) = l := by
  unfold low
  rw [List.map_map]
  have : ∀ z ∈ l, (((gc l : Int) * ·) ∘ (· / (gc l : Int))) z = z := fun z hz => by
    show (gc l : Int) * (z / (gc l : Int)) = z
    exact Int.mul_ediv_cancel' (gc_dvd hz)
  rw [List.map_congr_left this, List.map_id']

theorem gc_low {l : List Int} (h : gc l ≠ 0) : gc (low l) = 1 := by
  have e := gc_scale (gc l : Int) (low l)
  rw [low_mul] at e
  simp only [Int.natAbs_natCast] at e
  have h2 : gc l * 1 = gc l * gc (low l) := by omega
  exact (Nat.eq_of_mul_eq_mul_left (Nat.pos_of_ne_zero h) h2).symm

theorem neg_scale (l : List Int) : (l.map fun z => -z) = l.map ((-1 : Int) * ·) := List.map_congr_left fun z _ => by omega

theorem gc_neg (l : List Int) : gc (l.map fun z => -z) = gc l := by
  rw [neg_scale, gc_scale]
  simp

theorem gc_upr (l : List Int) : gc (upr l) = gc l := by
  unfold upr
  split
  · exact gc_neg l
  · rfl

theorem low_one {l : List Int} (h : gc l = 1) : low l = l := by
  unfold low
  rw [h]
  simp

theorem upr_or (l : List Int) : upr l = l ∨ upr l = l.map fun z => -z := by
  unfold upr
  split
  · exact Or.inr rfl
  · exact Or.inl rfl

theorem neg_neg_map (l : List Int) : (l.map fun z => -z).map (fun z => -z) = l := by
  rw [List.map_map]
  have : ∀ z ∈ l, ((fun z : Int => -z) ∘ fun z => -z) z = z := fun z _ => Int.neg_neg z
  rw [List.map_congr_left this, List.map_id']

theorem prim_eq {x y : List Int} {a b : Int} (hx : gc x = 1) (hy : gc y = 1) (ha : a ≠ 0) (hb : b ≠ 0) (h : x.map (a * ·) = y.map (b * ·)) : x = y ∨ x = y.map fun z => -z := by
  have e := norm_eq ha hb h
  rw [low_one hx, low_one hy] at e
  rcases upr_or x with h1 | h1 <;> rcases upr_or y with h2 | h2
  · exact Or.inl (by rw [← h1, e, h2])
  · exact Or.inr (by rw [← h1, e, h2])
  · refine Or.inr ?_
    have : (x.map fun z => -z) = y := by rw [← h1, e, h2]
    rw [← this, neg_neg_map]
  · refine Or.inl ?_
    have : (x.map fun z => -z) = y.map fun z => -z := by rw [← h1, e, h2]
    rw [← neg_neg_map x, this, neg_neg_map]

theorem norm_gc {d : Nat} {m : List (List Int)} (hl : (pickL d m).length + 1 = d) : gc (normL d m) = 1 := by
  obtain ⟨⟨i, hi, hne⟩, _, _⟩ := norm_spec hl
  have hnl : normL d m = upr (low (muL d (pickL d m))) := if_pos hl
  have hmem : V (normL d m) i ∈ normL d m := by
    unfold V
    have hlen : (normL d m).length = d := norm_len (by unfold normB; exact decide_eq_true hl)
    simp [show i < (normL d m).length by omega]
  have h0 := gc_pos hmem hne
  rw [hnl, gc_upr] at h0 ⊢
  refine gc_low fun e => h0 ?_
  have hz : ∀ z ∈ muL d (pickL d m), z = 0 := fun z hz => by
    have := gc_dvd hz
    rw [e] at this
    simpa using this
  have hl0 : low (muL d (pickL d m)) = muL d (pickL d m) := by
    unfold low
    have : ∀ z ∈ muL d (pickL d m), z / ((gc (muL d (pickL d m)) : Nat) : Int) = id z := fun z h => by rw [hz z h]; simp
    rw [List.map_congr_left this, List.map_id]
  rw [hl0]
  exact e

end Go.Proofs.YtpbahagfhkpfhaaGreat

/- What a choice of rows gives: the place where they are met, if there is one alone and it keeps all rows (pure). -/
namespace Go.Proofs.YtpbahagfhkpfhaaGreat

/-- A row whose last number has the other sign. -/
def ngR (d : Nat) (r : List Int) : List Int := r.take d ++ [-(r.getD d 0)]

theorem ngR_len {d : Nat} {r : List Int} (h : r.length = d + 1) : (ngR d r).length = d + 1 := by simp [ngR, h]

theorem ngR_get {d i : Nat} {r : List Int} (h : r.length = d + 1) (hi : i < d + 1) : (ngR d r).getD i 0 = if i = d then -(r.getD d 0) else r.getD i 0 := by
  unfold ngR
  by_cases e : i = d
  · subst e
    rw [if_pos rfl]
    simp [List.getD_eq_getElem?_getD, h]
  · rw [if_neg e]
    have hi2 : i < (r.take d).length := by simp [h]; omega
    rw [List.getD_eq_getElem?_getD, List.getElem?_append_left hi2, List.getElem?_take_of_lt (by omega), ← List.getD_eq_getElem?_getD]

/-- What a choice of rows gives: the place where they are met, if there is one alone and it keeps all rows. -/
def ptY (d : Nat) (t : List (List Int)) : List Int :=
  if (normL (d + 1) (t.map (ngR d))).getD d 0 < 0 then (normL (d + 1) (t.map (ngR d))).map (fun z => -z) else normL (d + 1) (t.map (ngR d))

def ptK (R : List (List Int)) (d : Nat) (y : List Int) : Bool := R.all fun r => decide (dotL (r.take d) y ≤ r.getD d 0 * y.getD d 0)

def ptT (R : List (List Int)) (d : Nat) (t : List (List Int)) : Option (List Int) :=
  if normB (d + 1) (t.map (ngR d)) = true ∧ (normL (d + 1) (t.map (ngR d))).getD d 0 ≠ 0 ∧ ptK R d (ptY d t) = true then some (ptY d t) else none

end Go.Proofs.YtpbahagfhkpfhaaGreat

/- Rows in blocks of their own, as slices. -/
namespace Go.Proofs.YtpbahagfhkpfhaaGreat
open Go.RowKit

/-- A row in a block of its own, as a slice. -/
theorem row_slT {B : Nat} {w : World} {g cap n : Nat} {F : Nat → Value} {l : List Int} (r : w.rowIs g 3 cap F) (hF : ∀ i, i < n → F i = .int .i64 (l.getD i 0)) (hl : l.length = n) (hn : n ≤ cap) (hc : cap ≤ 9223372036854775807) : Sl B 3 w (.slice (some ⟨g, 0, none⟩) n cap) (ints l) := by
  refine ⟨some ⟨g, 0, none⟩, cap, by simp [hl], by simpa [hl] using hn, by unfold maxLen; omega, fun i hi => ?_, fun h => by cases h⟩
  have hi' : i < l.length := by simpa using hi
  refine ⟨g, 0, rfl, ?_, ?_⟩
  · rw [Nat.zero_add, r.cell (by omega), hF i (by omega), ints_get _ _ hi']
  · obtain ⟨c, hb, _, _⟩ := r
    exact Or.inr ⟨c, hb⟩

theorem own_rw {B n : Nat} {e : TypeId} {w : World} {v : Value} {l : List Int} (h : w.ownsRow B e 1 v n (ints l)) (hn : 0 < n) : ∃ g cap F, v = .slice (some ⟨g, 0, none⟩) n cap ∧ B ≤ g ∧ w.rowIs g e cap F ∧ (∀ i, i < n → F i = .int .i64 (l.getD i 0)) ∧ n ≤ cap ∧ cap ≤ 9223372036854775807 := by
  obtain ⟨h1, h2⟩ := h
  rcases h2 with ⟨_, h0⟩ | ⟨g, cap, cur, hu, hg, hh, hnc, hcm, hs, htk⟩
  · omega
  · have hll : l.length = n := by simpa [ints] using h1
    refine ⟨g, cap, fun i => cur.toList.getD i (.int .i64 0), hu, hg, ⟨cur, hh, by omega, fun i hi => ?_⟩, fun i hi => ?_, hnc, by unfold maxLen at hcm; exact hcm⟩
    · show cur[i]? = some (cur.toList.getD i (.int .i64 0))
      rw [← Array.getElem?_toList, List.getD_eq_getElem?_getD, List.getElem?_eq_getElem (by simp; omega)]; rfl
    · have e1 : cur.toList.getD i (.int .i64 0) = (ints l).getD i (.int .i64 0) := by
        rw [← htk]
        simp only [List.getD_eq_getElem?_getD]
        rw [List.getElem?_take_of_lt (by omega)]
      show cur.toList.getD i (.int .i64 0) = _
      rw [e1]
      simp [ints, show i < l.length by omega]

end Go.Proofs.YtpbahagfhkpfhaaGreat
