/- The rows around points: hull.rowsAround. -/
import Derived.Test.YtkfdpcgmpbopnaaGreatDoorRa2
namespace Go.Proofs.YtkfdpcgmpbopnaaGreatDoor
open Go.RowKit Go.Shelf
attribute [local go_sem] Oper.semAt_some

theorem mat_keepA {B : Nat} {w W : World} {v : Value} {m : List (List Int)} (h : Mat B 22 3 w v m) (hk : ∀ b, b < w.heap.size → W.heap[b]? = w.heap[b]?) : Mat B 22 3 W v m := by
  obtain ⟨vs, h1, h2, h3⟩ := h
  exact ⟨vs, h1, h2.move fun b hl ht => ⟨hk b hl, ht⟩, fun i hi => (h3 i hi).move fun b hl ht => ⟨hk b hl, ht⟩⟩

theorem FrO.set {S : Nat → Prop} {B b j : Nat} {t : TypeId} {w : World} {v u : Value} {m : List (List Int)} {vs : List Value} {cur : Array Value} (h : FrO S B w v m vs) (hb : b < B) (hR : w.heap[b]? = some (.cells cur t (0, 0))) (ht : t ≠ 3) : FrO S B (w.setCell ⟨b, j, none⟩ u) v m vs := by
  refine ⟨h.len, owns_set h.own hb, h.off, fun i hi => (h.sl i hi).setCell u ⟨Nat.zero_le _, fun cur' e => ?_⟩, h.so⟩
  have e' : w.heap[b]? = some (.cells cur' 3 (0, 0)) := e
  rw [hR] at e'
  simp at e'
  exact ht e'.2

theorem pks_len (P : List (List Int)) (c : List Int) : (pks P [] c).length = c.length := by simp [pks]

theorem pks_box {d Bd : Nat} {P : List (List Int)} {c : List Int} (hP : Box d Bd P) (hc : ∀ i, i < c.length → 0 ≤ c.getD i 0 ∧ c.getD i 0 < P.length) : Box d Bd (pks P [] c) := by
  intro r hr
  simp only [pks, List.mem_map] at hr
  obtain ⟨z, hz, rfl⟩ := hr
  obtain ⟨t, ht, rfl⟩ := List.getElem_of_mem hz
  have h1 := hc t ht
  have e : c.getD t 0 = c[t] := by simp [ht]
  rw [e] at h1
  exact hP _ (by rw [List.getD_eq_getElem?_getD, List.getElem?_eq_getElem (by omega)]; exact List.getElem_mem _)


end Go.Proofs.YtkfdpcgmpbopnaaGreatDoor
