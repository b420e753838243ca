/- tropic.Least. -/
import Derived.Test.YtmffbaclgbmnbaaTw5
import Derived.Lib.SliceRun
namespace Go.Proofs.Ytmffbaclgbmnbaa
open Go.RowKit Go.Shelf
attribute [local go_sem] Oper.semAt_some

theorem handT_below (N0 : Nat) (W : World) (S : Nat → Prop) (x : List Int) (vs : Array Value) (W' : World) (h : Hand N0 W S x vs) (hb : Below W.heap.size W W') : Hand N0 W' S x vs := by
  obtain ⟨v, B0, h1, h2, h3, h4, h5⟩ := h
  exact ⟨v, B0, h1, owns_below h2 hb (Nat.le_refl _), h3, h4, Nat.le_trans h5 hb.size⟩

theorem ownsT_putObj {B : Nat} {W : World} {e : TypeId} {v : Value} {n : Nat} {xs : List Value} {l : Nat} {r : Loop} (h : W.ownsRow B e 1 v n xs) (o : Obj) (hl : W.heap[l]? = some (.loop r)) : (W.putObj l o).ownsRow B e 1 v n xs := by
  refine ⟨h.1, ?_⟩
  rcases h.2 with h2 | ⟨g, cap, cur, rfl, hb, hh, k⟩
  · exact Or.inl h2
  · refine Or.inr ⟨g, cap, cur, rfl, hb, ?_, k⟩
    have hne : g ≠ l := fun e => by rw [e, hl] at hh; cases hh
    exact (World.putObj_heap_other (k := g) (r := l) hne).trans hh

theorem handT_put (N0 : Nat) (W : World) (S : Nat → Prop) (x : List Int) (vs : Array Value) (l : Nat) (r : Loop) (o : Obj) (h : Hand N0 W S x vs) (hl : W.heap[l]? = some (.loop r)) : Hand N0 (W.putObj l o) S x vs := by
  obtain ⟨v, B0, h1, h2, h3, h4, h5⟩ := h
  exact ⟨v, B0, h1, ownsT_putObj h2 _ hl, h3, h4, by simpa using h5⟩

theorem matT_keep {B : Nat} {w W : World} {v : Value} {m : List (List Int)} (h : Mat B 22 3 w v m) (hk : ∀ b, b < w.heap.size → W.heap[b]? = w.heap[b]?) : Mat B 22 3 W v m := by
  obtain ⟨vs, h1, h2, h3⟩ := h
  exact ⟨vs, h1, h2.move fun b hl ht => ⟨hk b hl, ht⟩, fun i hi => (h3 i hi).move fun b hl ht => ⟨hk b hl, ht⟩⟩

/-- Three blocks, one after another. -/
theorem oThree (w : World) (o1 o2 o3 : Obj) :
    ∃ W, W = ((w.alloc o1).alloc o2).alloc o3 ∧ W.heap[w.heap.size]? = some o1 ∧ W.heap[w.heap.size + 1]? = some o2 ∧ W.heap[w.heap.size + 2]? = some o3 ∧ W.heap.size = w.heap.size + 3 ∧ Below w.heap.size w W := by
  obtain ⟨w1, h1⟩ : ∃ w1, w1 = w.alloc o1 := ⟨_, rfl⟩
  obtain ⟨w2, h2⟩ : ∃ w2, w2 = w1.alloc o2 := ⟨_, rfl⟩
  have s1 : w1.heap.size = w.heap.size + 1 := by rw [h1]; exact oSize_alloc _ _
  have s2 : w2.heap.size = w.heap.size + 2 := by rw [h2, oSize_alloc]; omega
  have n1 : w1.heap[w.heap.size]? = some o1 := by rw [h1]; exact oAlloc_new _ _
  have n2 : w2.heap[w.heap.size + 1]? = some o2 := by rw [h2, ← s1]; exact oAlloc_new _ _
  have b1 : Below w.heap.size w w1 := by rw [h1]; exact oAlloc_keep _ _
  have b2 : Below w1.heap.size w1 w2 := by rw [h2]; exact oAlloc_keep _ _
  have b3 : Below w2.heap.size w2 (w2.alloc o3) := oAlloc_keep _ _
  refine ⟨w2.alloc o3, by rw [h2, h1], ?_, ?_, ?_, ?_, ?_⟩
  · rw [b3.block _ (by omega), b2.block _ (by omega)]; exact n1
  · rw [b3.block _ (by omega)]; exact n2
  · rw [← s2]; exact oAlloc_new _ _
  · rw [oSize_alloc]; omega
  · exact (b1.trans (b2.mono (by omega))).trans (b3.mono (by omega))

end Go.Proofs.Ytmffbaclgbmnbaa
