/- The document's answer: lists in order, each once: where one more goes. -/
import Derived.Test.YtkfdpcgmpbopnaaGreatDoorHm3
import Derived.Test.YtkfdpcgmpbopnaaGreatDoorHm5
import Derived.Laws.IdiomCopy
namespace Go.Proofs.YtkfdpcgmpbopnaaGreatDoor
open Go.RowKit

/-- One more at place p. -/
def putAt (s : List (List Int)) (q : List Int) (p : Nat) : List (List Int) := s.take p ++ [q] ++ s.drop p

theorem putAt_len {s : List (List Int)} {q : List Int} {p : Nat} (h : p ≤ s.length) : (putAt s q p).length = s.length + 1 := by
  simp [putAt]; omega

theorem putAt_mem {s : List (List Int)} {q r : List Int} {p : Nat} : r ∈ putAt s q p ↔ r = q ∨ r ∈ s := by
  have e : r ∈ s ↔ r ∈ s.take p ∨ r ∈ s.drop p := by rw [← List.mem_append, List.take_append_drop]
  simp only [putAt, List.mem_append, List.mem_singleton, e]
  constructor
  · rintro ((h | h) | h)
    · exact Or.inr (Or.inl h)
    · exact Or.inl h
    · exact Or.inr (Or.inr h)
  · rintro (h | h | h)
    · exact Or.inl (Or.inr h)
    · exact Or.inl (Or.inl h)
    · exact Or.inr h

theorem putAt_asc {s : List (List Int)} {q : List Int} {p : Nat} (h : SAsc s) (hlo : ∀ r ∈ s.take p, cmpL r q < 0) (hup : ∀ r ∈ s.drop p, cmpL q r < 0) : SAsc (putAt s q p) := by
  unfold SAsc at *
  have h' : (s.take p ++ s.drop p).Pairwise fun a b => cmpL a b < 0 := by rw [List.take_append_drop]; exact h
  rw [List.pairwise_append] at h'
  obtain ⟨h1, h2, h3⟩ := h'
  unfold putAt
  rw [List.pairwise_append, List.pairwise_append]
  refine ⟨⟨h1, by simp, fun a ha b hb => ?_⟩, h2, fun a ha b hb => ?_⟩
  · simp at hb; subst hb; exact hlo a ha
  · simp only [List.mem_append, List.mem_singleton] at ha
    rcases ha with ha | rfl
    · exact h3 a ha b hb
    · exact hup b hb

/-- All ahead of a place at which a list is not ahead are not behind it. -/
theorem asc_below {s : List (List Int)} {q : List Int} {p : Nat} (h : SAsc s) (hp : p < s.length) (hq : ¬ cmpL q (s.getD p []) < 0) (hne : s.getD p [] ≠ q) : ∀ r ∈ s.take (p + 1), cmpL r q < 0 := by
  have hpq : cmpL (s.getD p []) q < 0 := by
    rcases Int.lt_or_le (cmpL (s.getD p []) q) 0 with h1 | h1
    · exact h1
    · exact absurd (cmpL_eq _ _ (Int.not_lt.2 h1) hq) hne
  intro r hr
  rw [List.take_succ_eq_append_getElem hp] at hr
  rcases List.mem_append.1 hr with hr | hr
  · have h' : (s.take p ++ s.drop p).Pairwise fun a b => cmpL a b < 0 := by rw [List.take_append_drop]; exact h
    rw [List.pairwise_append] at h'
    have h2 := h'.2.2 r hr (s.getD p []) (by
      have e : s.getD p [] = s[p] := by simp [hp]
      rw [e, List.drop_eq_getElem_cons hp]
      exact List.mem_cons_self)
    exact cmpL_trans _ _ _ h2 hpq
  · simp at hr
    have e : s.getD p [] = r := by rw [hr]; simp [hp]
    rw [← e]; exact hpq

end Go.Proofs.YtkfdpcgmpbopnaaGreatDoor
