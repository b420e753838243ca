/- matroid.heaviestFirst. -/
import Derived.Test.YtomhhonigffilaaDoorMt11
namespace Go.Proofs.YtomhhonigffilaaDoor
open Go.RowKit
attribute [local go_sem ↓] Go.wp_at_zero Go.wp_at_succ

theorem Sl.keepM {B : Nat} {w wq : World} {u : Value} {l : List Int} (h : Sl B 3 w u (ints l)) (hm : ∀ b, b < w.heap.size → wq.heap[b]? = w.heap[b]?) : Sl B 3 wq u (ints l) := by
  obtain ⟨ao, cap, rfl, h1, h2, h3, h4⟩ := h
  refine ⟨ao, cap, rfl, h1, h2, fun i hi => ?_, h4⟩
  obtain ⟨b, o, ha, hc, ht⟩ := h3 i hi
  have hlt : b < w.heap.size := lt_of_cell (hc.trans (List.getElem?_eq_getElem hi))
  have keep := hm b hlt
  refine ⟨b, o, ha, (World.cell?_of_block (w := w) (a := ⟨b, o + i, none⟩) keep).trans hc, ?_⟩
  rcases ht with ht | ⟨cur, ht⟩
  · exact Or.inl ht
  · exact Or.inr ⟨cur, keep.trans ht⟩

def rngI (n : Nat) : List Int := (List.range n).map fun i : Nat => (i : Int)

/-- Things by falling weights. -/
def hvL (ws : List Int) : List Int := insO ws (ws.length - 1) 1 (rngI ws.length)

theorem rngI_succ (n : Nat) : rngI (n + 1) = rngI n ++ [(n : Int)] := by simp [rngI, List.range_succ]
theorem rngI_len (n : Nat) : (rngI n).length = n := by simp [rngI]
theorem rngI_pl (n : Nat) : Pl n (rngI n) := fun k hk => by
  rw [rngI_len] at hk
  simp [rngI, hk]

end Go.Proofs.YtomhhonigffilaaDoor
