/- The normal when the last column's sign is turned (pure). -/
import Derived.Test.YtgfnmkenpgnllaaGreatNrm
namespace Go.Proofs.YtgfnmkenpgnllaaGreat
open Lin

/-- Just one direction is 0 with all rows. -/
def OneDir (d : Nat) (m : List (List Int)) : Prop :=
  ∃ a : Nat → Int, (∃ i, i < d ∧ a i ≠ 0) ∧ (∀ r ∈ m, dot d (V r) a = 0) ∧ ∀ u : Nat → Int, (∀ r ∈ m, dot d (V r) u = 0) → Par d u a

theorem norm_one_iff {d : Nat} {m : List (List Int)} : normB d m = true ↔ OneDir d m := by
  constructor
  · intro h
    have hl : (pickL d m).length + 1 = d := by simpa [normB] using h
    obtain ⟨h0, h1, h2⟩ := norm_spec hl
    exact ⟨_, h0, h1, h2⟩
  · rintro ⟨a, h0, h1, h2⟩
    have hc := greedy_count (pick_greedy d m) (a := a) h0 (fun r hr => by
      obtain ⟨l, hl, rfl⟩ := mem_fm.1 hr
      exact h1 l hl) (fun u hu => h2 u (fun r hr => hu (V r) (mem_fm.2 ⟨r, hr, rfl⟩)))
    rw [fm_length] at hc
    simpa [normB] using hc

end Go.Proofs.YtgfnmkenpgnllaaGreat
