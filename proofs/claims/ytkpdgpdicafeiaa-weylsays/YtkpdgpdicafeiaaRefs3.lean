/- The document's answer: all rising choices. -/
import Derived.Test.YtkpdgpdicafeiaaRefs
import Derived.Test.YtkpdgpdicafeiaaDatA
import Derived.Deep.RegionHeld3
import Derived.Deep.RegionLaw
import Derived.Deep.DrawnRows
import Derived.Maps.AppendAt
namespace Go.Proofs.Ytkpdgpdicafeiaa
open Go.RowKit

/-- Rows of the call's own, each inner one of its own, too. -/
def Fr (B : Nat) (e2 e1 : TypeId) (w : World) (v : Value) (m : List (List Int)) : Prop :=
  ∃ vs, vs.length = m.length ∧ w.ownsRow B e2 1 v m.length vs ∧ ∀ i, i < m.length → Sl 0 e1 w (vs.getD i (.slice none 0 0)) (ints (m.getD i []))

theorem Fr.rws {B : Nat} {e2 e1 : TypeId} {w : World} {v : Value} {m : List (List Int)} (h : Fr B e2 e1 w v m) : Rws B e2 e1 w v m := by
  obtain ⟨vs, h1, h2, h3⟩ := h
  exact ⟨vs, h1, h2, fun i hi => (h3 i hi).more (Nat.zero_le _)⟩

theorem Fr.nil (B : Nat) (e2 e1 : TypeId) (w : World) : Fr B e2 e1 w (.slice none 0 0) [] :=
  ⟨[], rfl, World.ownsRow_nil _ _ _ _, fun i hi => absurd hi (by simp)⟩

theorem Fr.below {B N : Nat} {e2 e1 : TypeId} {w w' : World} {v : Value} {m : List (List Int)} (h : Fr B e2 e1 w v m) (hb : Below N w w') (hN : w.heap.size ≤ N) : Fr B e2 e1 w' v m := by
  obtain ⟨vs, h1, h2, h3⟩ := h
  exact ⟨vs, h1, owns_below h2 hb hN, fun i hi => (h3 i hi).below hb hN⟩

theorem Fr.alloc {B : Nat} {e2 e1 : TypeId} {w : World} {v : Value} {m : List (List Int)} (h : Fr B e2 e1 w v m) (o : Obj) : Fr B e2 e1 (w.alloc o) v m := by
  obtain ⟨vs, h1, h2, h3⟩ := h
  exact ⟨vs, h1, h2.alloc o, fun i hi => (h3 i hi).alloc o⟩

/-- Another row of rows, appended to. -/
theorem Fr.kept {B B' n : Nat} {e2 e1 : TypeId} {w w' : World} {v u : Value} {m : List (List Int)} {us : List Value} (hne : e2 ≠ e1) (h : Fr B e2 e1 w v m) (hu : w.ownsRow B' e2 1 u n us) (hg : w.grownBy w' u.ownBlock)
    (ha : ∀ g, u.ownBlock = some g → v.ownBlock ≠ some g) : Fr B e2 e1 w' v m := by
  obtain ⟨vs, h1, h2, h3⟩ := h
  refine ⟨vs, h1, h2.kept hg ?_, fun i hi => (h3 i hi).grown hg (fun k hk => ⟨Nat.zero_le _, (owns_typed hu hne k hk).2⟩)⟩
  cases hv : v.ownBlock with
  | none => exact Or.inl rfl
  | some g => exact Or.inr fun e => ha g e.symm hv

theorem Fr.push {B : Nat} {e2 e1 : TypeId} {w w' : World} {v v' u : Value} {m : List (List Int)} {vs : List Value} {zs : List Int} (hne : e2 ≠ e1)
    (h1 : vs.length = m.length) (h2 : w.ownsRow B e2 1 v m.length vs) (h3 : ∀ i, i < m.length → Sl 0 e1 w (vs.getD i (.slice none 0 0)) (ints (m.getD i []))) (hu : Sl 0 e1 w u (ints zs))
    (ho : w'.ownsRow B e2 1 v' (m.length + 1) (vs ++ [u])) (hg : w.grownBy w' v.ownBlock) : Fr B e2 e1 w' v' (m ++ [zs]) := by
  have ht : ∀ k, v.ownBlock = some k → 0 ≤ k ∧ ∀ cur, w.heap[k]? ≠ some (.cells cur e1 (0, 0)) := fun k hk => ⟨Nat.zero_le _, (owns_typed h2 hne k hk).2⟩
  refine ⟨vs ++ [u], by simp [h1], by simpa using ho, fun i hi => ?_⟩
  by_cases hlt : i < m.length
  · have e1' : (vs ++ [u]).getD i (.slice none 0 0) = vs.getD i (.slice none 0 0) := by
      simp only [List.getD_eq_getElem?_getD]; rw [List.getElem?_append_left (by omega)]
    have e2' : (m ++ [zs]).getD i [] = m.getD i [] := by
      simp only [List.getD_eq_getElem?_getD]; rw [List.getElem?_append_left (by omega)]
    rw [e1', e2']
    exact (h3 i hlt).grown hg ht
  · have hi' : i = m.length := by simp at hi; omega
    subst hi'
    have e1' : (vs ++ [u]).getD m.length (.slice none 0 0) = u := by
      rw [← h1]; simp
    have e2' : (m ++ [zs]).getD m.length [] = zs := by simp
    rw [e1', e2']
    exact hu.grown hg ht

/-- Two slices do not lie in one block. -/
def Apart (x l : Value) : Prop := ∀ g, x.ownBlock = some g → l.ownBlock ≠ some g

end Go.Proofs.Ytkpdgpdicafeiaa
