/- matroid.givesAll, exchanges. -/
import Derived.Test.YtomhhonigffilaaDoorMt3
namespace Go.Proofs.YtomhhonigffilaaDoor
open Go.RowKit
attribute [local go_sem ↓] Go.wp_at_zero Go.wp_at_succ

/-- Something stands in for a thing that is given. -/
def stB (bs : List Int) (a b : Nat) (x : Int) : Bool := (mem8 (outN b a)).any fun y => bs.contains (swp a x.toNat y.toNat : Int)

def gvB (bs : List Int) (a b : Nat) : Bool := (mem8 (outN a b)).all (stB bs a b)

theorem outN_lt8 {a b : Nat} (ha : a < 256) : outN a b < 256 := Nat.lt_of_le_of_lt (outN_le a b) ha

theorem mem8_rng {s : Nat} {x : Int} (h : x ∈ mem8 s) : ∃ i : Nat, i < 8 ∧ x = (i : Int) := by
  obtain ⟨i, h1, _, h3⟩ := mem8_iff.1 h
  exact ⟨i, h1, h3.symm⟩

theorem TabB.low {w w' : World} (h : TabB w) {N : Nat} (hb : Below N w w') (hN : w.heap.size ≤ N) : TabB w' := h.below (hb.mono hN)

theorem all_snoc {p : Int → Bool} {l : List Int} {k : Nat} (h : k < l.length) (h0 : (l.take k).all p = true) : (l.take (k + 1)).all p = p (l.getD k 0) := by
  rw [List.take_succ_eq_append_getElem h, List.all_append, h0]; simp [h]

theorem all_stop {p : Int → Bool} {l : List Int} {k : Nat} (h : k < l.length) (h0 : p (l.getD k 0) = false) : l.all p = false := by
  rw [List.all_eq_false]
  exact ⟨l.getD k 0, by simp [h], by rw [h0]; simp⟩

end Go.Proofs.YtomhhonigffilaaDoor
