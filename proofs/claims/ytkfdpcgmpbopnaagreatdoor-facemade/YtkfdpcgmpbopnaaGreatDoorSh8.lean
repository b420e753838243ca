/- The sides of a simplex that are met: the program, its two functions. -/
import Derived.Test.YtkfdpcgmpbopnaaGreatDoorSh7
namespace Go.Proofs.YtkfdpcgmpbopnaaGreatDoor
open Go.RowKit
attribute [local go_sem ↓] Go.wp_at_zero Go.wp_at_succ

theorem Tryz.info74' : (Tryz.prog.info? 74).map (fun i => (i.zero, i.size, i.bytes)) = some (some (.int .u64 0), 1, 8) := by kernel_rfl

theorem owns_lower {B B' : Nat} {e : TypeId} {w : World} {v : Value} {n : Nat} {xs : List Value} (h : w.ownsRow B e 1 v n xs) (hB : B' ≤ B) : w.ownsRow B' e 1 v n xs := by
  obtain ⟨h1, h2⟩ := h
  refine ⟨h1, ?_⟩
  rcases h2 with h2 | ⟨g, cap, cur, q1, q2, q3⟩
  · exact Or.inl h2
  · exact Or.inr ⟨g, cap, cur, q1, by omega, q3⟩

theorem one_u64 (z : Int) : ∀ u ∈ [Value.int .u64 z], u.oneCell' = true := by
  intro u hu; simp at hu; subst hu; rfl

theorem owns_pushS {M N : Nat} {e : TypeId} {w0 w w1 : World} {v v' : Value} {l : List Nat} {z : Nat} {o : Obj} (hN : M ≤ w.heap.size) (h : w.ownsRow M e 1 v l.length (nats l)) (hb : Below M w0 w)
    (ho : w1.ownsRow M e 1 v' N (nats l ++ [.int .u64 (z : Int)])) (hg : (w.alloc o).grownBy w1 v.ownBlock) (hn : N = l.length + 1) :
    w1.ownsRow M e 1 v' (l ++ [z]).length (nats (l ++ [z])) ∧ Below M w0 w1 := by
  subst hn
  refine ⟨by simpa [nats] using ho, ?_⟩
  refine (hb.alloc hN o).grown hg (by simp; omega) ?_
  intro k hk
  exact (h.lt k hk).1

end Go.Proofs.YtkfdpcgmpbopnaaGreatDoor
