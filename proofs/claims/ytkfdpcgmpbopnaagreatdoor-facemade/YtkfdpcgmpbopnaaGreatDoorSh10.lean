/- Simplices one behind the other: the program. -/
import Derived.Test.YtkfdpcgmpbopnaaGreatDoorSh9
namespace Go.Proofs.YtkfdpcgmpbopnaaGreatDoor
open Go.RowKit
attribute [local go_sem ↓] Go.wp_at_zero Go.wp_at_succ

/-- Is what the i-th has in common with those ahead in its sides that are met? -/
def shOk (m : List (List Int)) (i : Nat) : Bool := meetB (m.getD i []) (m.take i) (metL (m.getD i []) (m.take i))
def shN (m : List (List Int)) (i : Nat) : Nat := (metL (m.getD i []) (m.take i)).length

/-- All so far are met in whole sides. -/
def allOk (m : List (List Int)) : Nat → Bool
  | 0 => true
  | k + 1 => allOk m k && shOk m k

theorem allOk_step {m : List (List Int)} {k : Nat} (h : allOk m k = true) (h2 : shOk m k = true) : allOk m (k + 1) = true := by
  rw [allOk, h, h2]; rfl

theorem allOk_bad {m : List (List Int)} {k : Nat} (h2 : shOk m k = false) : ∀ n, k < n → allOk m n = false := by
  intro n
  induction n with
  | zero => intro h; omega
  | succ n ih =>
    intro h
    by_cases e : k = n
    · subst e; rw [allOk, h2]; simp
    · rw [allOk, ih (by omega)]; rfl

theorem owns_setCell {B : Nat} {e : TypeId} {w : World} {v : Value} {n : Nat} {xs : List Value} {a : Addr} (h : w.ownsRow B e 1 v n xs) (ha : a.block < B) (u : Value) : (w.setCell a u).ownsRow B e 1 v n xs := by
  obtain ⟨h1, h2⟩ := h
  refine ⟨h1, ?_⟩
  rcases h2 with h2 | ⟨g, cap, cur, q1, q2, q3, q4⟩
  · exact Or.inl h2
  · exact Or.inr ⟨g, cap, cur, q1, q2, (Below.heap_setCell w a u g (by omega)).trans q3, q4⟩

theorem Blk.grow {N : Nat} {w w' : World} {l : List Int} {o : Obj} {row : Option Nat} (h : Blk N w l) (hg : (w.alloc o).grownBy w' row) (hN : N < w.heap.size) (hne : some N ≠ row) : Blk N w' l := by
  unfold Blk at h ⊢
  rw [hg.block N (by simp; omega) hne]
  exact (Below.heap_alloc _ _ _ hN).trans h

/-- What is told. -/
def shellA (m : List (List Int)) : List Int := if allOk m m.length then cntL (m.getD 0 []).length (shN m) m.length else []

end Go.Proofs.YtkfdpcgmpbopnaaGreatDoor
