/- The rows that are found by turning are the rows (pure). -/
import Derived.Test.YtkfdpcgmpbopnaaGreatDoorWq3
namespace Go.Proofs.YtkfdpcgmpbopnaaGreatDoor
open Lin

theorem dt2_comm (s t : Int × Int) : dt2 s t = dt2 t s := by unfold dt2; grind

/-- Each row is found about some flat. -/
theorem wr_complete {d : Nat} {P : List (List Int)} (hg : Good (d + 1) P) (hd : 1 ≤ d) {r : List Int} (hr : r ∈ rowsC P [] (d + 1) P) :
    ∃ t : List (List Int), t.Sublist P ∧ t.length = d ∧ FlatOk (d + 1) t ∧ ∀ u v, Bas (d + 1) t (t.getD 0 []) u v → r ∈ thrL (d + 1) u v (t.getD 0 []) P := by
  obtain ⟨t, hts, htl, hfl, htr, h, hht, hhF, hhn⟩ := wr_flat hg hd hr
  refine ⟨t, hts, htl, hfl, fun u v hB => ?_⟩
  have ht0 : t.getD 0 [] ∈ t := by simp [show 0 < t.length by omega]
  obtain ⟨x, hx⟩ : ∃ x, x = t.getD 0 [] := ⟨_, rfl⟩
  rw [← hx] at hB hht hhF ht0 ⊢
  have hrx := htr x ht0
  obtain ⟨ρ, a, b, hρ, hab⟩ := hB.spn (V r) fun y hy => by rw [← htr y hy, ← hrx]
  obtain ⟨ρ', a', b', hρ', hab'⟩ := hB.spn h hht
  obtain ⟨_, _, _, ⟨p, hp, hpne⟩, _⟩ := row_one (fun y hy => (hg.box y hy).1) hg.d1 hr
  obtain ⟨T, hTF, hT0, _, huni⟩ := row_one (fun y hy => (hg.box y hy).1) hg.d1 hr
  -- the directions are not one
  have hdet : a * b' - b * a' ≠ 0 := fun h0 => hhn fun i j hi hj => by
    have p1 := hab i hi
    have p2 := hab j hj
    have q1 := hab' i hi
    have q2 := hab' j hj
    have key : (ρ' * ρ) * (h i * V r j - h j * V r i) = 0 := by
      have e1 : (ρ' * ρ) * (h i * V r j - h j * V r i) = (ρ' * h i) * (ρ * V r j) - (ρ' * h j) * (ρ * V r i) := by grind
      rw [e1, q1, q2, p1, p2]
      have e2 : (a' * V u i + b' * V v i) * (a * V u j + b * V v j) - (a' * V u j + b' * V v j) * (a * V u i + b * V v i) = (a * b' - b * a') * (V u j * V v i - V u i * V v j) := by grind
      rw [e2, h0, Int.zero_mul]
    rcases Int.mul_eq_zero.1 key with h1 | h1
    · exact absurd h1 (Int.mul_ne_zero hρ' hρ)
    · omega
  -- on the row, off the flat: the direction is below
  have hneg : ∀ y ∈ P, r.getD (d + 1) 0 = dot (d + 1) (V r) (V y) → senP (d + 1) u v x y ≠ (0, 0) → a * (senP (d + 1) u v x y).1 + b * (senP (d + 1) u v x y).2 = 0 ∧ dot (d + 1) h (V y) - dot (d + 1) h (V x) < 0 := fun y hy hyr h0 => by
    have k1 : a * (senP (d + 1) u v x y).1 + b * (senP (d + 1) u v x y).2 = 0 := by
      rw [← comb_sen (x := x) hab y, ← hyr, ← hrx, Int.sub_self, Int.mul_zero]
    have k2 := comb_sen (x := x) hab' y
    refine ⟨k1, ?_⟩
    have k3 := hhF y hy hyr
    rcases Int.lt_or_le (dot (d + 1) h (V y) - dot (d + 1) h (V x)) 0 with h1 | h1
    · exact h1
    · exfalso
      have k4 : dot (d + 1) h (V y) - dot (d + 1) h (V x) = 0 := by omega
      rw [k4, Int.mul_zero] at k2
      generalize senP (d + 1) u v x y = s at *
      obtain ⟨s0, s1⟩ := s
      simp only at k1 k2
      have m0 : (a * b' - b * a') * s0 = 0 := by grind
      have m1 : (a * b' - b * a') * s1 = 0 := by grind
      rcases Int.mul_eq_zero.1 m0 with h2 | h2
      · exact hdet h2
      · rcases Int.mul_eq_zero.1 m1 with h3 | h3
        · exact hdet h3
        · exact h0 (by rw [h2, h3])
  -- there is one
  obtain ⟨z, hzP, hzr, hz0⟩ : ∃ z ∈ P, r.getD (d + 1) 0 = dot (d + 1) (V r) (V z) ∧ senP (d + 1) u v x z ≠ (0, 0) := by
    refine Classical.byContradiction fun hn => ?_
    have hall : ∀ y ∈ P, r.getD (d + 1) 0 = dot (d + 1) (V r) (V y) → senP (d + 1) u v x y = (0, 0) := fun y hy hyr => Classical.byContradiction fun h => hn ⟨y, hy, hyr, h⟩
    have hsame : ∀ y ∈ T, dot (d + 1) (V u) (V y) = dot (d + 1) (V u) (V x) ∧ dot (d + 1) (V v) (V y) = dot (d + 1) (V v) (V x) := fun y hy => by
      have := hall y (hTF y hy).1 (hTF y hy).2
      unfold senP at this
      simp only [Prod.mk.injEq] at this
      omega
    have pu := huni (V u) fun y hy => by rw [(hsame y hy).1, (hsame _ hT0).1]
    have pv := huni (V v) fun y hy => by rw [(hsame y hy).2, (hsame _ hT0).2]
    have h1 := hB.ind (V v p) (-(V u p)) fun i hi => by
      have e1 := pu i p hi hp
      have e2 := pv i p hi hp
      have : V r p * (V v p * V u i + -(V u p) * V v i) = 0 := by grind
      rcases Int.mul_eq_zero.1 this with h | h
      · exact absurd h hpne
      · exact h
    have hu0 : ∀ i, i < d + 1 → V u i = 0 := fun i hi => by
      have e1 := pu i p hi hp
      have : V u p = 0 := by omega
      rw [this, Int.zero_mul] at e1
      rcases Int.mul_eq_zero.1 e1 with h | h
      · exact h
      · exact absurd h hpne
    have h2 := hB.ind 1 0 fun i hi => by rw [hu0 i hi]; simp
    omega
  obtain ⟨kz1, kz2⟩ := hneg z hzP hzr hz0
  refine wr_end hg hB hr hrx hρ hab hzP hzr hz0 fun y hy hy0 hyr => ?_
  obtain ⟨ky1, ky2⟩ := hneg y hy hyr hy0
  have cz := comb_sen (x := x) hab' z
  have cy := comb_sen (x := x) hab' y
  have hN := dt2_pos hz0
  generalize senP (d + 1) u v x z = e at *
  generalize senP (d + 1) u v x y = s at *
  obtain ⟨e0, e1⟩ := e
  obtain ⟨s0, s1⟩ := s
  simp only at kz1 ky1 cz cy
  unfold dt2 at hN ⊢
  simp only at hN ⊢
  have hab0 : a ≠ 0 ∨ b ≠ 0 := by
    rcases Int.decEq a 0 with ha | ha
    · exact .inl ha
    · right
      intro hb
      exact hdet (by rw [ha, hb]; simp)
  have hcr : e0 * s1 - e1 * s0 = 0 := by
    have m0 : a * (e0 * s1 - e1 * s0) = 0 := by grind
    have m1 : b * (e0 * s1 - e1 * s0) = 0 := by grind
    rcases hab0 with h0 | h0
    · rcases Int.mul_eq_zero.1 m0 with h | h
      · exact absurd h h0
      · exact h
    · rcases Int.mul_eq_zero.1 m1 with h | h
      · exact absurd h h0
      · exact h
  obtain ⟨N, hNe⟩ : ∃ N, N = e0 * e0 + e1 * e1 := ⟨_, rfl⟩
  obtain ⟨D, hDe⟩ : ∃ D, D = e0 * s0 + e1 * s1 := ⟨_, rfl⟩
  have f0 : N * s0 = D * e0 := by rw [hNe, hDe]; grind
  have f1 : N * s1 = D * e1 := by rw [hNe, hDe]; grind
  have key : N * (ρ' * (dot (d + 1) h (V y) - dot (d + 1) h (V x))) = D * (ρ' * (dot (d + 1) h (V z) - dot (d + 1) h (V x))) := by
    rw [cy, cz]
    have g1 : N * (a' * s0 + b' * s1) = a' * (N * s0) + b' * (N * s1) := by grind
    rw [g1, f0, f1]; grind
  have key2 : N * (dot (d + 1) h (V y) - dot (d + 1) h (V x)) = D * (dot (d + 1) h (V z) - dot (d + 1) h (V x)) := by
    have : ρ' * (N * (dot (d + 1) h (V y) - dot (d + 1) h (V x))) = ρ' * (D * (dot (d + 1) h (V z) - dot (d + 1) h (V x))) := by grind
    exact Int.eq_of_mul_eq_mul_left hρ' this
  show 0 < e0 * s0 + e1 * s1
  rw [← hDe]
  rw [← hNe] at hN
  have l1 := Int.mul_pos hN (show 0 < -(dot (d + 1) h (V y) - dot (d + 1) h (V x)) by omega)
  rcases Int.lt_or_le 0 D with h1 | h1
  · exact h1
  · exfalso
    have l2 := Int.mul_nonneg (show 0 ≤ -D by omega) (show 0 ≤ -(dot (d + 1) h (V z) - dot (d + 1) h (V x)) by omega)
    have l3 : -D * -(dot (d + 1) h (V z) - dot (d + 1) h (V x)) = D * (dot (d + 1) h (V z) - dot (d + 1) h (V x)) := by grind
    have l4 : N * -(dot (d + 1) h (V y) - dot (d + 1) h (V x)) = -(N * (dot (d + 1) h (V y) - dot (d + 1) h (V x))) := by grind
    omega

/-- All that is found about a flat is a row. -/
theorem wr_in {d : Nat} {P t : List (List Int)} (hg : Good d P) {x u v : List Int} (hxP : x ∈ P) (htP : ∀ y ∈ t, y ∈ P) (hB : Bas d t x u v) {r : List Int} (hr : r ∈ thrL d u v x P) : r ∈ rowsC P [] d P := by
  unfold thrL at hr
  cases hoff : offL d u v x P with
  | nil => rw [hoff] at hr; cases hr
  | cons m l =>
    rw [hoff] at hr
    have hsp : ∀ s ∈ m :: l, ∃ y ∈ P, senP d u v x y = s ∧ s ≠ (0, 0) := fun s hs => off_mem.1 (by rw [hoff]; exact hs)
    have key : ∀ e : Int × Int, (∃ s ∈ m :: l, e = s ∨ e = negP s) → r ∈ endR d u v x (m :: l) e → r ∈ rowsC P [] d P := fun e ⟨s, hs, he⟩ hre => by
      obtain ⟨z, hz, hze, hz0⟩ := hsp s hs
      unfold endR at hre
      split at hre
      · cases hre
      · rename_i hany
        simp only [List.mem_singleton] at hre
        rw [hre]
        have hall : ∀ q ∈ m :: l, trn q e ≤ 0 := fun q hq => by
          rcases Int.lt_or_le 0 (trn q e) with h | h
          · exact absurd (List.any_eq_true.2 ⟨q, hq, decide_eq_true h⟩) hany
          · exact h
        have hst : trn s e = 0 := by
          rcases he with rfl | rfl
          · exact trn_self _
          · have := trn_op s s
            rw [trn_self] at this
            unfold negP
            omega
        have he0 : e ≠ (0, 0) := fun h => by
          rcases he with h1 | h1
          · exact hz0 (by rw [← h1]; exact h)
          · rw [h1] at h
            unfold negP at h
            simp at h
            exact hz0 (Prod.ext h.1 h.2)
        refine wr_sound hg hxP htP hB he0 ⟨z, hz, by rw [hze]; exact hz0, by rw [hze]; exact hst⟩ fun y hy => ?_
        by_cases h0 : senP d u v x y = (0, 0)
        · rw [h0]; unfold trn; simp
        · exact hall _ (by rw [← hoff]; exact off_mem.2 ⟨y, hy, rfl, h0⟩)
    rcases List.mem_append.1 hr with h | h
    · refine key _ ⟨mxF m l, ?_, .inl rfl⟩ h
      rcases mxF_mem l m with h | h
      · rw [h]; simp
      · simp [h]
    · refine key _ ⟨mnF m l, ?_, .inr rfl⟩ h
      rcases mnF_mem l m with h | h
      · rw [h]; simp
      · simp [h]

end Go.Proofs.YtkfdpcgmpbopnaaGreatDoor
