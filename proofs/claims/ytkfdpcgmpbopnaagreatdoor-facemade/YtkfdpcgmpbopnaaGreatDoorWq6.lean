/- The rows that turning about flats gives are the rows (pure). -/
import Derived.Test.YtkfdpcgmpbopnaaGreatDoorWr9
namespace Go.Proofs.YtkfdpcgmpbopnaaGreatDoor
open Lin

theorem thr_len (d : Nat) (u v x : List Int) (P : List (List Int)) : (thrL d u v x P).length ≤ 2 := by
  have h : ∀ off e, (endR d u v x off e).length ≤ 1 := fun off e => by unfold endR; split <;> simp
  unfold thrL
  split
  · simp
  · rw [List.length_append]
    have h1 := h
    rename_i m l _
    have a := h (m :: l) (mxF m l)
    have b := h (m :: l) (negP (mnF m l))
    omega

/-- Rows that are, and all of the choices so far. -/
structure RwQ (d : Nat) (P pre m : List (List Int)) : Prop where
  is : ∀ r ∈ m, r ∈ rowsC P [] d P
  all : ∀ c ∈ pre, FlatOk d (pks P [] c) → ∃ u v, Bas d (pks P [] c) ((pks P [] c).getD 0 []) u v ∧ ∀ r ∈ thrL d u v ((pks P [] c).getD 0 []) P, r ∈ m
  len : m.length ≤ 2 * pre.length

theorem RwQ.nil (d : Nat) (P : List (List Int)) : RwQ d P [] [] := ⟨fun r hr => (by cases hr), fun c hc => (by cases hc), Nat.le_refl _⟩

/-- What one choice gives. -/
def ThrQ (d : Nat) (P t R : List (List Int)) : Prop := ∃ K, KerP d (diffL t) K ∧ R = thrK d K (t.getD 0 []) P

theorem ThrQ.len {d : Nat} {P t R : List (List Int)} (h : ThrQ d P t R) : R.length ≤ 2 := by
  obtain ⟨K, _, rfl⟩ := h
  unfold thrK
  split
  · exact thr_len _ _ _ _ _
  · simp

theorem RwQ.snoc {d : Nat} {P pre m R : List (List Int)} {c : List Int} (h : RwQ d P pre m) (hg : Good d P) (ht : ∀ y ∈ pks P [] c, y ∈ P) (h1 : 1 ≤ (pks P [] c).length) (hR : ThrQ d P (pks P [] c) R) : RwQ d P (pre ++ [c]) (m ++ R) := by
  have hRl := hR.len
  obtain ⟨K, hK, rfl⟩ := hR
  have hbox : Box d 30 (pks P [] c) := fun y hy => hg.box y (ht y hy)
  have hx : (pks P [] c).getD 0 [] ∈ P := ht _ (by simp [show 0 < (pks P [] c).length by omega])
  refine ⟨fun r hr => ?_, fun c' hc' hf => ?_, by rw [List.length_append, List.length_append, List.length_singleton]; have := h.len; omega⟩
  · rcases List.mem_append.1 hr with hr | hr
    · exact h.is r hr
    · unfold thrK at hr
      split at hr
      · rename_i h2
        obtain ⟨hB, _⟩ := ker_bas hbox hg.d1 hg.d4 hK h2 h1
        exact wr_in hg hx ht hB hr
      · cases hr
  · rcases List.mem_append.1 hc' with hc' | hc'
    · obtain ⟨u, v, hB, ha⟩ := h.all c' hc' hf
      exact ⟨u, v, hB, fun r hr => List.mem_append.2 (Or.inl (ha r hr))⟩
    · simp only [List.mem_singleton] at hc'
      subst hc'
      have h2 : K.length = 2 := by
        have := ker_len hK
        unfold FlatOk at hf
        omega
      obtain ⟨hB, _⟩ := ker_bas hbox hg.d1 hg.d4 hK h2 h1
      refine ⟨_, _, hB, fun r hr => List.mem_append.2 (Or.inr ?_)⟩
      unfold thrK
      rw [if_pos h2]
      exact hr

theorem RwQ.mem {e : Nat} {P m : List (List Int)} (hg : Good (e + 1) P) (he : 1 ≤ e) (h : RwQ (e + 1) P (ext P.length e 0) m) (r : List Int) : r ∈ m ↔ r ∈ rowsC P [] (e + 1) P := by
  refine ⟨h.is r, fun hr => ?_⟩
  obtain ⟨t, hts, htl, hfl, hall⟩ := wr_complete hg he hr
  have hx := chz_ext P [] e 0
  rw [List.drop_zero] at hx
  have hm : t ∈ chz e P := chz_mem.2 ⟨hts, htl⟩
  rw [← hx] at hm
  obtain ⟨c, hc, rfl⟩ := List.mem_map.1 hm
  obtain ⟨u, v, hB, ha⟩ := h.all c hc hfl
  exact ha r (hall u v hB)

theorem ext_lenW {P : List (List Int)} {e : Nat} (h24 : P.length ≤ 24) (h4 : e ≤ 4) : (ext P.length e 0).length ≤ 400000 := by
  have h3 : (ext P.length e 0).length = (chz e P).length := by
    have := congrArg List.length (chz_ext P [] e 0)
    simpa using this
  rw [h3, ← chs_chz]
  refine Nat.le_trans (chs_len _ _) ?_
  exact Nat.le_trans (Nat.pow_le_pow_left (show P.length + 1 ≤ 25 by omega) e) (Nat.le_trans (Nat.pow_le_pow_right (by decide) h4) (by decide))

/-- What a choice must be for rowsThrough. -/
theorem thr_ok {d : Nat} {P t : List (List Int)} (hg : Good d P) (ht : ∀ y ∈ t, y ∈ P) (h1 : 1 ≤ t.length) : ∀ K, KerP d (diffL t) K → K.length = 2 → SeeOk d (K.getD 0 []) (K.getD 1 []) (t.getD 0 []) P ∧ offL d (K.getD 0 []) (K.getD 1 []) (t.getD 0 []) P ≠ [] ∧ 1 ≤ d := fun K hK h2 => by
  have hbox : Box d 30 t := fun y hy => hg.box y (ht y hy)
  have hx : t.getD 0 [] ∈ P := ht _ (by simp [show 0 < t.length by omega])
  obtain ⟨hB, l1, l2, b1, b2⟩ := ker_bas hbox hg.d1 hg.d4 hK h2 h1
  have hn : ∀ y ∈ P, ∀ z ∈ y, z.natAbs ≤ 30 := fun y hy z hz => by have := (hg.box y hy).2 z hz; omega
  exact ⟨⟨l1, l2, (hg.box _ hx).1, by have := hg.d4; omega, by have := hg.n24; omega, b1, b2, hn _ hx, fun y hy => ⟨(hg.box y hy).1, hn y hy⟩⟩, off_some hg hB, hg.d1⟩

end Go.Proofs.YtkfdpcgmpbopnaaGreatDoor
