import Derived.Test.YtmljnfgfjcjmmaaRefs
import Derived.Test.YtmljnfgfjcjmmaaStepsAll
import Derived.Deep.DrawnRows
import Derived.Maps.AppendAt
/- The document's answer: some columns alone; all choices; determinants by all orders. -/
namespace Go.Proofs.Ytmljnfgfjcjmmaa
open Go.RowKit
attribute [local go_sem ↓] Go.wp_at_zero Go.wp_at_succ

def colsL (m : List (List Int)) (c : List Int) : List (List Int) := m.map fun r => c.map fun q => r.getD q.toNat 0

theorem colsL_length (m : List (List Int)) (c : List Int) : (colsL m c).length = m.length := by simp [colsL]

end Go.Proofs.Ytmljnfgfjcjmmaa

/- The document's answer: all rising choices. -/
namespace Go.Proofs.Ytmljnfgfjcjmmaa
open Go.RowKit

/-- Rows of the call's own, each inner one of its own, too. -/
def Fr (B : Nat) (e2 e1 : TypeId) (w : World) (v : Value) (m : List (List Int)) : Prop :=
  ∃ vs, vs.length = m.length ∧ w.ownsRow B e2 1 v m.length vs ∧ ∀ i, i < m.length → Sl 0 e1 w (vs.getD i (.slice none 0 0)) (ints (m.getD i []))

theorem Fr.nil (B : Nat) (e2 e1 : TypeId) (w : World) : Fr B e2 e1 w (.slice none 0 0) [] :=
  ⟨[], rfl, World.ownsRow_nil _ _ _ _, fun i hi => absurd hi (by simp)⟩

theorem Fr.below {B N : Nat} {e2 e1 : TypeId} {w w' : World} {v : Value} {m : List (List Int)} (h : Fr B e2 e1 w v m) (hb : Below N w w') (hN : w.heap.size ≤ N) : Fr B e2 e1 w' v m := by
  obtain ⟨vs, h1, h2, h3⟩ := h
  exact ⟨vs, h1, owns_below h2 hb hN, fun i hi => (h3 i hi).below hb hN⟩

theorem Fr.alloc {B : Nat} {e2 e1 : TypeId} {w : World} {v : Value} {m : List (List Int)} (h : Fr B e2 e1 w v m) (o : Obj) : Fr B e2 e1 (w.alloc o) v m := by
  obtain ⟨vs, h1, h2, h3⟩ := h
  exact ⟨vs, h1, h2.alloc o, fun i hi => (h3 i hi).alloc o⟩

/-- Another row of rows, appended to. -/
theorem Fr.kept {B B' n : Nat} {e2 e1 : TypeId} {w w' : World} {v u : Value} {m : List (List Int)} {us : List Value} (hne : e2 ≠ e1) (h : Fr B e2 e1 w v m) (hu : w.ownsRow B' e2 1 u n us) (hg : w.grownBy w' u.ownBlock)
    (ha : ∀ g, u.ownBlock = some g → v.ownBlock ≠ some g) : Fr B e2 e1 w' v m := by
  obtain ⟨vs, h1, h2, h3⟩ := h
  refine ⟨vs, h1, h2.kept hg ?_, fun i hi => (h3 i hi).grown hg (fun k hk => ⟨Nat.zero_le _, (owns_typed hu hne k hk).2⟩)⟩
  cases hv : v.ownBlock with
  | none => exact Or.inl rfl
  | some g => exact Or.inr fun e => ha g e.symm hv

theorem Fr.push {B : Nat} {e2 e1 : TypeId} {w w' : World} {v v' u : Value} {m : List (List Int)} {vs : List Value} {zs : List Int} (hne : e2 ≠ e1)
    (h1 : vs.length = m.length) (h2 : w.ownsRow B e2 1 v m.length vs) (h3 : ∀ i, i < m.length → Sl 0 e1 w (vs.getD i (.slice none 0 0)) (ints (m.getD i []))) (hu : Sl 0 e1 w u (ints zs))
    (ho : w'.ownsRow B e2 1 v' (m.length + 1) (vs ++ [u])) (hg : w.grownBy w' v.ownBlock) : Fr B e2 e1 w' v' (m ++ [zs]) := by
  have ht : ∀ k, v.ownBlock = some k → 0 ≤ k ∧ ∀ cur, w.heap[k]? ≠ some (.cells cur e1 (0, 0)) := fun k hk => ⟨Nat.zero_le _, (owns_typed h2 hne k hk).2⟩
  refine ⟨vs ++ [u], by simp [h1], by simpa using ho, fun i hi => ?_⟩
  by_cases hlt : i < m.length
  · have e1' : (vs ++ [u]).getD i (.slice none 0 0) = vs.getD i (.slice none 0 0) := by
      simp only [List.getD_eq_getElem?_getD]; rw [List.getElem?_append_left (by omega)]
    have e2' : (m ++ [zs]).getD i [] = m.getD i [] := by
      simp only [List.getD_eq_getElem?_getD]; rw [List.getElem?_append_left (by omega)]
    rw [e1', e2']
    exact (h3 i hlt).grown hg ht
  · have hi' : i = m.length := by simp at hi; omega
    subst hi'
    have e1' : (vs ++ [u]).getD m.length (.slice none 0 0) = u := by
      rw [← h1]; simp
    have e2' : (m ++ [zs]).getD m.length [] = zs := by simp
    rw [e1', e2']
    exact hu.grown hg ht

/-- All rising lists of k numbers below n: the last one from k - 1 on. -/
def chosenL : Nat → Nat → List (List Int)
  | 0, _ => [[]]
  | k + 1, n => (List.range' k (n - k)).flatMap fun v => (chosenL k v).map (· ++ [(v : Int)])

theorem chosen_row : ∀ k n l, l ∈ chosenL k n → l.length = k := by
  intro k
  induction k with
  | zero => intro n l h; simp [chosenL] at h; subst h; rfl
  | succ k ih =>
    intro n l h
    simp only [chosenL, List.mem_flatMap, List.mem_map] at h
    obtain ⟨v, _, l', h1, rfl⟩ := h
    simp [ih v l' h1]

end Go.Proofs.Ytmljnfgfjcjmmaa
