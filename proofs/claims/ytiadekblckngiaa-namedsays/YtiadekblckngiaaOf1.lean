/- choose.Of: the walk that fills in a choice, from whatever is left to choose. -/
import Derived.Test.YtiadekblckngiaaRun1
import Derived.Test.YtiadekblckngiaaRfs
import Derived.Test.YtiadekblckngiaaChz
import Derived.Deep.OwnRows
import Derived.Stop.RegionWithIn
namespace Go.Proofs.Ytiadekblckngiaa
open Go.RowKit Go.Shelf
attribute [local go_sem] Oper.semAt_some

/-- What a choice is handed over as: a row of its own, in none of the walk's own blocks. -/
def Hand (N0 : Nat) (W : World) (S : Nat → Prop) (x : List Int) (vs : Array Value) : Prop :=
  ∃ v B0, vs = #[v] ∧ W.ownsRow B0 3 1 v x.length (ints x) ∧ (∀ b, S b → b < B0) ∧ N0 ≤ B0 ∧ B0 ≤ W.heap.size

theorem lt_cell0 {w : World} {b : Nat} {v : Value} (h : w.cell? ⟨b, 0, none⟩ = some v) : b < w.heap.size := World.block_lt_of_cell? w ⟨b, 0, none⟩ h

theorem rowIs_kpt {S : Nat → Prop} {W W' : World} {ba n : Nat} {t : TypeId} {f : Nat → Value} (h : W.rowIs ba t n f) (hk : Kpt S W W') (hs : S ba) : W'.rowIs ba t n f := by
  obtain ⟨c, h1, h2, h3⟩ := h
  exact ⟨c, (hk.block ba (Array.getElem?_eq_some_iff.1 h1).1 hs).trans h1, h2, h3⟩

theorem Sl.row' {B b n : Nat} {t : TypeId} {w : World} {f : Nat → Value} (h : w.rowIs b t n f) (hn : n ≤ maxLen) {xs : List Value} (hx : xs.length = n) (hf : ∀ i, i < n → xs[i]? = some (f i)) : Sl B t w (.slice (some ⟨b, 0, none⟩) n n) xs := by
  refine ⟨some ⟨b, 0, none⟩, n, by rw [hx], by omega, hn, fun i hi => ⟨b, 0, rfl, ?_, ?_⟩, fun h => by cases h⟩
  · have := h.cell (i := i) (by omega)
    simp only [Nat.zero_add]
    rw [this, hf i (by omega)]
  · obtain ⟨c, h1, _⟩ := h
    exact Or.inr ⟨c, h1⟩

/-- The blocks of the walk's own. -/
structure Bxo (S : Nat → Prop) (bm by' bc bn bf ba : Nat) : Prop where
  m : S bm
  y : S by'
  c : S bc
  n : S bn
  f : S bf
  a : S ba
  ne : ∀ b, b = bm ∨ b = by' ∨ b = bc ∨ b = bn ∨ b = bf → b ≠ ba

theorem Bxo.of {S : Nat → Prop} {bm by' bc bn bf ba : Nat} (h : Bxo S bm by' bc bn bf ba) {b : Nat} (hb : b = bm ∨ b = by' ∨ b = bc ∨ b = bn ∨ b = bf) : S b := by
  rcases hb with rfl | rfl | rfl | rfl | rfl
  · exact h.m
  · exact h.y
  · exact h.c
  · exact h.n
  · exact h.f

end Go.Proofs.Ytiadekblckngiaa
