/- The document's answer: where a point is: the walk. -/
import Derived.Test.YtkfdpcgmpbopnaaGreatDoorHm8
namespace Go.Proofs.YtkfdpcgmpbopnaaGreatDoor
open Go.RowKit
attribute [local go_sem ↓] Go.wp_at_zero Go.wp_at_succ

/-- What a row says of a point of the same dimension, for small numbers. -/
theorem over_of {d : Nat} {P : List (List Int)} {r x : List Int} (hr : RowOf d P r) (hx : x.length = d) (hb : (r.getD d 0).natAbs ≤ 1000000000000000000) (h4 : d ≤ 4) (hxb : ∀ z ∈ x, z.natAbs ≤ 1000) (B : Nat) (u v : Value) (w : World) (hu : Sl B 3 w u (ints r)) (hv : Sl B 3 w v (ints x)) :
    Calls Tryz.prog 44 #[u, v] w fun e w' => e = .returned (.int .i64 (overL r x)) ∧ ∃ n, w' = w.drewN n := by
  refine over_any B r x u v w hu hv (by rw [hx]; exact hr.len) ⟨?_, ?_, ?_, hxb⟩ (by rw [hx]; exact hb)
  · rw [List.length_take]; omega
  · rw [List.length_take]; omega
  · rw [hx]; exact hr.bd

/-- Where a point is, by rows. -/
def whL (s : List (List Int)) (x : List Int) : Int := if (s.any fun r => decide (0 < overL r x)) = true then 1 else if (s.any fun r => decide (overL r x = 0)) = true then 0 else -1

theorem whL_same {s t : List (List Int)} (h : ∀ r, r ∈ s ↔ r ∈ t) (x : List Int) : whL s x = whL t x := by
  have e : ∀ f : List Int → Bool, s.any f = t.any f := fun f => by
    rw [Bool.eq_iff_iff]
    simp only [List.any_eq_true]
    exact ⟨fun ⟨r, h1, h2⟩ => ⟨r, (h r).1 h1, h2⟩, fun ⟨r, h1, h2⟩ => ⟨r, (h r).2 h1, h2⟩⟩
  unfold whL
  rw [e, e]

end Go.Proofs.YtkfdpcgmpbopnaaGreatDoor
