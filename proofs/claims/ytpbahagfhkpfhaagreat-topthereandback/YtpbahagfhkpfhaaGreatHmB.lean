import Derived.Test.YtpbahagfhkpfhaaGreatHulY
import Derived.Test.YtpbahagfhkpfhaaGreatRowY
import Derived.Test.YtpbahagfhkpfhaaGreatRaY
/- Rows of choices do not hang on the order in which the points come. -/
namespace Go.Proofs.YtpbahagfhkpfhaaGreat
open Lin

theorem rowT_form {d : Nat} {P t : List (List Int)} {r : List Int} (ht : t.length = d) (hr : rowT t P = some r) :
    ∃ σ : Int, (σ = 1 ∨ σ = -1) ∧ normB d (diffL t) = true ∧ r = (normL d (diffL t) ++ [dotL (normL d (diffL t)) (t.getD 0 [])]).map (σ * ·) := by
  unfold rowT at hr
  rw [ht] at hr
  split at hr
  · rename_i hnb
    split at hr
    · simp only [Option.some.injEq] at hr
      exact ⟨1, Or.inl rfl, hnb, by rw [← hr]; simp⟩
    · split at hr
      · simp only [Option.some.injEq] at hr
        refine ⟨-1, Or.inr rfl, hnb, ?_⟩
        rw [← hr]
        exact List.map_congr_left fun z _ => by omega
      · simp at hr
  · simp at hr

theorem V_map (l : List Int) (σ : Int) (i : Nat) : V (l.map (σ * ·)) i = σ * V l i := by
  simp only [V, List.getD_eq_getElem?_getD, List.getElem?_map]
  cases l[i]? <;> simp

theorem rows_same0 {d : Nat} {P P' : List (List Int)} (hbox : Box d 30 P) (hd1 : 1 ≤ d) (hd4 : d ≤ 4) (hspan : ∀ c : Nat → Int, (∀ y ∈ P, ∀ z ∈ P, dot d c (V y) = dot d c (V z)) → ∀ i, i < d → c i = 0) (hm : ∀ r, r ∈ P' ↔ r ∈ P) {r : List Int} (hr : r ∈ rowsC P' [] d P') : r ∈ rowsC P [] d P := by
  have hRow : RowOf d P r := rowsC_fit hbox hd1 (by omega) hm hr
  obtain ⟨t, hts, htl, hrt⟩ := mem_rowsC.1 hr
  obtain ⟨σ, hσ, hnb, hre⟩ := rowT_form htl hrt
  have htP : ∀ y ∈ t, y ∈ P := fun y hy => (hm y).1 (hts.mem hy)
  have h0t : t.getD 0 [] ∈ t := by simp [show 0 < t.length by omega]
  have hl : (pickL d (diffL t)).length + 1 = d := of_decide_eq_true hnb
  have hal := norm_len hnb
  obtain ⟨⟨p, hp, hne⟩, hz, hone⟩ := norm_spec hl
  obtain ⟨k1, hk1, hmu1⟩ := norm_par hl
  have hn1 : normL d (diffL t) = upr (low (muL d (pickL d (diffL t)))) := if_pos hl
  have hlast : ∀ (a : List Int) (b τ : Int), a.length = d → V ((a ++ [b]).map (τ * ·)) d = τ * b ∧ ∀ i, i < d → V ((a ++ [b]).map (τ * ·)) i = τ * V a i := fun a b τ h => by
    obtain ⟨_, _, e3, e4⟩ := row_app (b := b) h
    refine ⟨?_, fun i hi => by rw [V_map, e4 i hi]⟩
    rw [V_map]
    show τ * (a ++ [b]).getD d 0 = _
    rw [e3]
  have hxP := htP _ h0t
  have hV : ∀ i, i < d → V r i = σ * V (normL d (diffL t)) i := fun i hi => by rw [hre]; exact (hlast _ _ _ hal).2 i hi
  have hdot : ∀ y, dot d (V r) y = σ * dot d (V (normL d (diffL t))) y := fun y => by
    unfold dot
    rw [← sumN_mul]
    exact sumN_congr fun i hi => by rw [hV i hi]; grind
  have hb : r.getD d 0 = dot d (V r) (V (t.getD 0 [])) := by
    rw [hdot, ← dotL_eq hal]
    have := (hlast (normL d (diffL t)) (dotL (normL d (diffL t)) (t.getD 0 [])) σ hal).1
    rw [← hre] at this
    exact this
  have htight : ∀ u : Nat → Int, (∀ row ∈ diffL t, dot d (V row) u = 0) ↔ ∀ y ∈ t, dot d u (V y) = dot d u (V (t.getD 0 [])) := fun u => by
    have key : ∀ y ∈ t, dot d (V (subL y (t.getD 0 []))) u = dot d u (V y) - dot d u (V (t.getD 0 [])) := fun y hy => by
      rw [dot_comm, dot_subL u (hbox y (htP y hy)).1]
    constructor
    · intro h y hy
      obtain ⟨i, hi, rfl⟩ := List.mem_iff_getElem.1 hy
      by_cases hi0 : i = 0
      · subst hi0
        have : t.getD 0 [] = t[0] := by simp [hi]
        rw [this]
      · have hmem : subL t[i] (t.getD 0 []) ∈ diffL t := by
          simp only [diffL, List.mem_map]
          refine ⟨t[i], ?_, rfl⟩
          rw [List.mem_drop_iff_getElem]
          exact ⟨i - 1, by omega, by congr 1; omega⟩
        have h1 := h _ hmem
        rw [key _ hy] at h1
        omega
    · intro h row hrow
      simp only [diffL, List.mem_map] at hrow
      obtain ⟨y, hy, rfl⟩ := hrow
      have hy' := List.mem_of_mem_drop hy
      rw [key y hy', h y hy']
      omega
  have hσ0 : σ ≠ 0 := by rcases hσ with h | h <;> omega
  have hta : ∀ y ∈ t, dot d (V r) (V y) = dot d (V r) (V (t.getD 0 [])) := fun y hy => by
    rw [hdot, hdot, (htight _).1 hz y hy]
  obtain ⟨r2, hr2, hb2, s, q, hs, hq, hsq⟩ := side_some (c := V r) hbox hspan hxP ⟨p, hp, by rw [hV p hp]; exact Int.mul_ne_zero hσ0 hne⟩ (fun y hy => by rw [← hb]; exact hRow.all y hy) (fun u hu => by
    have h1 : Par d u (V (normL d (diffL t))) := hone u ((htight u).2 fun y hy => hu y (htP y hy) (hta y hy))
    intro i j hi hj
    have := h1 i j hi hj
    rw [hV i hi, hV j hj]
    grind)
  obtain ⟨t2, hts2, htl2, hrt2⟩ := mem_rowsC.1 hr2
  obtain ⟨τ, hτ, hnb2, hre2⟩ := rowT_form htl2 hrt2
  have hτ0 : τ ≠ 0 := by rcases hτ with h | h <;> omega
  have hl2 : (pickL d (diffL t2)).length + 1 = d := of_decide_eq_true hnb2
  have hal2 := norm_len hnb2
  obtain ⟨k2, hk2, hmu2⟩ := norm_par hl2
  have hn2 : normL d (diffL t2) = upr (low (muL d (pickL d (diffL t2)))) := if_pos hl2
  have hV2 : ∀ i, i < d → V r2 i = τ * V (normL d (diffL t2)) i := fun i hi => by rw [hre2]; exact (hlast _ _ _ hal2).2 i hi
  have haa : normL d (diffL t) = normL d (diffL t2) := by
    rw [hn1, hn2]
    refine norm_eq (a := s * σ * k2) (b := q * τ * k1) (Int.mul_ne_zero (Int.mul_ne_zero (by omega) hσ0) hk2) (Int.mul_ne_zero (Int.mul_ne_zero (by omega) hτ0) hk1) ?_
    unfold muL
    rw [List.map_map, List.map_map]
    refine List.map_congr_left fun i hi => ?_
    have hi' : i < d := List.mem_range.1 hi
    show s * σ * k2 * mu (fm (pickL d (diffL t))) i = q * τ * k1 * mu (fm (pickL d (diffL t2))) i
    have h := hsq i hi'
    rw [hV i hi', hV2 i hi'] at h
    rw [hmu1 i hi', hmu2 i hi']
    grind
  have hst : σ = τ := by
    have h := hsq p hp
    rw [hV p hp, hV2 p hp, ← haa] at h
    have h' : s * σ * V (normL d (diffL t)) p = q * τ * V (normL d (diffL t)) p := by grind
    have h2 := Int.eq_of_mul_eq_mul_right hne h'
    rcases hσ with rfl | rfl <;> rcases hτ with rfl | rfl <;> omega
  have hlst : σ * dotL (normL d (diffL t)) (t.getD 0 []) = τ * dotL (normL d (diffL t2)) (t2.getD 0 []) := by
    have e1 := (hlast (normL d (diffL t)) (dotL (normL d (diffL t)) (t.getD 0 [])) σ hal).1
    have e2 := (hlast (normL d (diffL t2)) (dotL (normL d (diffL t2)) (t2.getD 0 [])) τ hal2).1
    rw [← hre] at e1
    rw [← hre2] at e2
    rw [← e1, ← e2]
    show r.getD d 0 = r2.getD d 0
    rw [hb, hb2]
    unfold dot
    exact sumN_congr fun i hi => by rw [hV i hi, hV2 i hi, haa, hst]
  have : r = r2 := by
    rw [hre, hre2, List.map_append, List.map_append, ← haa, ← hst] 
    rw [← haa, ← hst] at hlst
    simp only [List.map_cons, List.map_nil]
    rw [hlst]
  rw [this]
  exact hr2

/-- The rows are the same, in whichever order the points come, and however often. -/
theorem rows_same {d : Nat} {P P' : List (List Int)} (hg : Good d P) (hm : ∀ r, r ∈ P' ↔ r ∈ P) (r : List Int) : r ∈ rowsC P' [] d P' ↔ r ∈ rowsC P [] d P :=
  ⟨fun h => rows_same0 hg.box hg.d1 hg.d4 (good_span hg) hm h, fun h => rows_same0 (fun y hy => hg.box y ((hm y).1 hy)) hg.d1 hg.d4
    (fun c hc => good_span hg c fun y hy z hz => hc y ((hm y).2 hy) z ((hm z).2 hz)) (fun y => (hm y).symm) h⟩

end Go.Proofs.YtpbahagfhkpfhaaGreat

/- The document's answer: products, how far a point is beyond a row, differences. -/
namespace Go.Proofs.YtpbahagfhkpfhaaGreat
open Go.RowKit
attribute [local go_sem ↓] Go.wp_at_zero Go.wp_at_succ

/-- How far a point is beyond a row. -/
def overL (r x : List Int) : Int := dotL (r.take x.length) x - r.getD x.length 0

end Go.Proofs.YtpbahagfhkpfhaaGreat
