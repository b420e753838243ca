import Derived.Test.YtfhhjifkgknhgaaRefs
import Derived.Test.YtfhhjifkgknhgaaStepsAll
import Derived.Deep.DrawnRows
import Derived.Maps.AppendAt
/- The document's answer: some columns alone; all choices; determinants by all orders. -/
namespace Go.Proofs.Ytfhhjifkgknhgaa
open Go.RowKit
attribute [local go_sem ↓] Go.wp_at_zero Go.wp_at_succ

def colsL (m : List (List Int)) (c : List Int) : List (List Int) := m.map fun r => c.map fun q => r.getD q.toNat 0

theorem colsL_snoc (m : List (List Int)) (c : List Int) (k : Nat) (h : k < m.length) : (colsL m c).take (k + 1) = (colsL m c).take k ++ [c.map fun q => (m.getD k []).getD q.toNat 0] := by
  unfold colsL
  rw [List.take_succ_eq_append_getElem (by simpa using h)]; simp [h]

theorem colsL_length (m : List (List Int)) (c : List Int) : (colsL m c).length = m.length := by simp [colsL]

theorem push3 {M j : Nat} {wa wr w3 : World} {v v' : Value} {o : Obj} {t l : List Int} {z : Int} (hB : Below M wa wr) (hsz : M ≤ wr.heap.size) (hl : t.length = j) (h : wr.ownsRow M 3 1 v j (ints t))
    (ho : w3.ownsRow M 3 1 v' (j + 1) (ints t ++ [.int .i64 z])) (hg : (wr.drew.alloc o).grownBy w3 v.ownBlock) (hz : l = t ++ [z]) : w3.ownsRow M 3 1 v' (j + 1) (ints l) ∧ Below M wa w3 := by
  subst hl hz
  exact owns_push (w := wr.drew) hsz (l := t) h hB.drew ho hg rfl

theorem keep3 {M : Nat} {wa w3 : World} (hB : Below M wa w3) {a1 a2 a3 : Addr} {v1 v2 v3 : Value} (h : ((a1.block < M ∧ wa.cell? a1 = some v1) ∧ (a2.block < M ∧ wa.cell? a2 = some v2)) ∧ (a3.block < M ∧ wa.cell? a3 = some v3)) :
    Hid (w3.cell? a1 = some v1 ∧ w3.cell? a2 = some v2 ∧ w3.cell? a3 = some v3) :=
  ⟨(hB.cell h.1.1.1).trans h.1.1.2, (hB.cell h.1.2.1).trans h.1.2.2, (hB.cell h.2.1).trans h.2.2⟩

end Go.Proofs.Ytfhhjifkgknhgaa

/- The document's answer: all rising choices. -/
namespace Go.Proofs.Ytfhhjifkgknhgaa
open Go.RowKit

/-- Rows of the call's own, each inner one of its own, too. -/
def Fr (B : Nat) (e2 e1 : TypeId) (w : World) (v : Value) (m : List (List Int)) : Prop :=
  ∃ vs, vs.length = m.length ∧ w.ownsRow B e2 1 v m.length vs ∧ ∀ i, i < m.length → Sl 0 e1 w (vs.getD i (.slice none 0 0)) (ints (m.getD i []))

theorem Fr.rws {B : Nat} {e2 e1 : TypeId} {w : World} {v : Value} {m : List (List Int)} (h : Fr B e2 e1 w v m) : Rws B e2 e1 w v m := by
  obtain ⟨vs, h1, h2, h3⟩ := h
  exact ⟨vs, h1, h2, fun i hi => (h3 i hi).more (Nat.zero_le _)⟩

theorem Fr.nil (B : Nat) (e2 e1 : TypeId) (w : World) : Fr B e2 e1 w (.slice none 0 0) [] :=
  ⟨[], rfl, World.ownsRow_nil _ _ _ _, fun i hi => absurd hi (by simp)⟩

theorem Fr.below {B N : Nat} {e2 e1 : TypeId} {w w' : World} {v : Value} {m : List (List Int)} (h : Fr B e2 e1 w v m) (hb : Below N w w') (hN : w.heap.size ≤ N) : Fr B e2 e1 w' v m := by
  obtain ⟨vs, h1, h2, h3⟩ := h
  exact ⟨vs, h1, owns_below h2 hb hN, fun i hi => (h3 i hi).below hb hN⟩

theorem Fr.alloc {B : Nat} {e2 e1 : TypeId} {w : World} {v : Value} {m : List (List Int)} (h : Fr B e2 e1 w v m) (o : Obj) : Fr B e2 e1 (w.alloc o) v m := by
  obtain ⟨vs, h1, h2, h3⟩ := h
  exact ⟨vs, h1, h2.alloc o, fun i hi => (h3 i hi).alloc o⟩

/-- Another row of rows, appended to. -/
theorem Fr.kept {B B' n : Nat} {e2 e1 : TypeId} {w w' : World} {v u : Value} {m : List (List Int)} {us : List Value} (hne : e2 ≠ e1) (h : Fr B e2 e1 w v m) (hu : w.ownsRow B' e2 1 u n us) (hg : w.grownBy w' u.ownBlock)
    (ha : ∀ g, u.ownBlock = some g → v.ownBlock ≠ some g) : Fr B e2 e1 w' v m := by
  obtain ⟨vs, h1, h2, h3⟩ := h
  refine ⟨vs, h1, h2.kept hg ?_, fun i hi => (h3 i hi).grown hg (fun k hk => ⟨Nat.zero_le _, (owns_typed hu hne k hk).2⟩)⟩
  cases hv : v.ownBlock with
  | none => exact Or.inl rfl
  | some g => exact Or.inr fun e => ha g e.symm hv

theorem Fr.push {B : Nat} {e2 e1 : TypeId} {w w' : World} {v v' u : Value} {m : List (List Int)} {vs : List Value} {zs : List Int} (hne : e2 ≠ e1)
    (h1 : vs.length = m.length) (h2 : w.ownsRow B e2 1 v m.length vs) (h3 : ∀ i, i < m.length → Sl 0 e1 w (vs.getD i (.slice none 0 0)) (ints (m.getD i []))) (hu : Sl 0 e1 w u (ints zs))
    (ho : w'.ownsRow B e2 1 v' (m.length + 1) (vs ++ [u])) (hg : w.grownBy w' v.ownBlock) : Fr B e2 e1 w' v' (m ++ [zs]) := by
  have ht : ∀ k, v.ownBlock = some k → 0 ≤ k ∧ ∀ cur, w.heap[k]? ≠ some (.cells cur e1 (0, 0)) := fun k hk => ⟨Nat.zero_le _, (owns_typed h2 hne k hk).2⟩
  refine ⟨vs ++ [u], by simp [h1], by simpa using ho, fun i hi => ?_⟩
  by_cases hlt : i < m.length
  · have e1' : (vs ++ [u]).getD i (.slice none 0 0) = vs.getD i (.slice none 0 0) := by
      simp only [List.getD_eq_getElem?_getD]; rw [List.getElem?_append_left (by omega)]
    have e2' : (m ++ [zs]).getD i [] = m.getD i [] := by
      simp only [List.getD_eq_getElem?_getD]; rw [List.getElem?_append_left (by omega)]
    rw [e1', e2']
    exact (h3 i hlt).grown hg ht
  · have hi' : i = m.length := by simp at hi; omega
    subst hi'
    have e1' : (vs ++ [u]).getD m.length (.slice none 0 0) = u := by
      rw [← h1]; simp
    have e2' : (m ++ [zs]).getD m.length [] = zs := by simp
    rw [e1', e2']
    exact hu.grown hg ht

/-- Two slices do not lie in one block. -/
def Apart (x l : Value) : Prop := ∀ g, x.ownBlock = some g → l.ownBlock ≠ some g

/-- All rising lists of k numbers below n: the last one from k - 1 on. -/
def chosenL : Nat → Nat → List (List Int)
  | 0, _ => [[]]
  | k + 1, n => (List.range' k (n - k)).flatMap fun v => (chosenL k v).map (· ++ [(v : Int)])

def chosenTo (k v : Nat) : List (List Int) := (List.range' k (v - k)).flatMap fun v => (chosenL k v).map (· ++ [(v : Int)])

theorem chosenTo_succ {k v : Nat} (h : k ≤ v) : chosenTo k (v + 1) = chosenTo k v ++ (chosenL k v).map (· ++ [(v : Int)]) := by
  unfold chosenTo
  rw [show v + 1 - k = (v - k) + 1 by omega, List.range'_concat, List.flatMap_append]
  simp [show k + (v - k) = v by omega]

theorem chosen_len : ∀ k n, n ≤ 64 → (chosenL k n).length ≤ 64 ^ k := by
  intro k
  induction k with
  | zero => intro n _; simp [chosenL]
  | succ k ih =>
    intro n hn
    have h1 : ∀ t, k + t ≤ 64 → ((List.range' k t).flatMap fun v => (chosenL k v).map (· ++ [(v : Int)])).length ≤ t * 64 ^ k := by
      intro t
      induction t with
      | zero => intro _; simp
      | succ t it =>
        intro ht
        rw [List.range'_concat, List.flatMap_append, List.length_append]
        have := it (by omega)
        have h2 := ih (k + t) (by omega)
        simp only [List.flatMap_cons, List.flatMap_nil, List.append_nil, List.length_map, Nat.one_mul]
        rw [Nat.add_mul]; omega
    have h2 := h1 (n - k)
    simp only [chosenL]
    by_cases hk : k ≤ n
    · have := h2 (by omega)
      rw [Nat.pow_succ]
      have h3 : (n - k) * 64 ^ k ≤ 64 * 64 ^ k := Nat.mul_le_mul_right _ (by omega)
      rw [Nat.mul_comm (64 ^ k)]; omega
    · have : n - k = 0 := by omega
      rw [this]; simp

theorem chosen_row : ∀ k n l, l ∈ chosenL k n → l.length = k := by
  intro k
  induction k with
  | zero => intro n l h; simp [chosenL] at h; subst h; rfl
  | succ k ih =>
    intro n l h
    simp only [chosenL, List.mem_flatMap, List.mem_map] at h
    obtain ⟨v, _, l', h1, rfl⟩ := h
    simp [ih v l' h1]

theorem chosen_base (w : World) : Fr w.heap.size 22 3 ((w.alloc (.cells #[] 3)).alloc (.cells #[.slice (some ⟨w.heap.size, 0, none⟩) 0 0] 22)) (.slice (some ⟨w.heap.size + 1, 0, none⟩) 1 1) [[]] := by
  refine ⟨[.slice (some ⟨w.heap.size, 0, none⟩) 0 0], rfl, ?_, fun i hi => ?_⟩
  · have h := World.ownsRow_lit (base := w.heap.size) (e := 22) (size := 1) (w.alloc (.cells #[] 3)) #[.slice (some ⟨w.heap.size, 0, none⟩) 0 0] 1 (by simp) (by simp [maxLen]) (by simp)
    simpa using h
  · have : i = 0 := by simp at hi; omega
    subst this
    exact ⟨some ⟨w.heap.size, 0, none⟩, 0, rfl, by simp [ints], by simp [maxLen], fun i hi => absurd hi (by simp [ints]), fun h => by cases h⟩

theorem toSnoc {v i : Nat} {m : List (List Int)} {l : List (List Int)} (hm : m = l) (hi : i < l.length) (A : List (List Int)) :
    A ++ (m.map (· ++ [(v : Int)])).take (i + 1) = (A ++ (m.map (· ++ [(v : Int)])).take i) ++ [l.getD i [] ++ [(v : Int)]] := by
  subst hm
  rw [List.take_succ_eq_append_getElem (by simpa using hi), List.append_assoc]
  simp [hi]

end Go.Proofs.Ytfhhjifkgknhgaa
