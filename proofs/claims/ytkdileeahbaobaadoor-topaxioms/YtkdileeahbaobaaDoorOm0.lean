/- Lists of lists whose rows are the call's own, each in a block of its own, and are written into. -/
import Derived.Test.YtkdileeahbaobaaDoorReads
import Derived.Deep.OwnRows
namespace Go.Proofs.YtkdileeahbaobaaDoor
open Go.RowKit

def rowsV (g c : Nat → Nat) (n k : Nat) : List Value := (List.range k).map fun i => .slice (some ⟨g i, 0, none⟩) n (c i)

theorem rowsV_get {g c : Nat → Nat} {n k i : Nat} (h : i < k) : (rowsV g c n k)[i]? = some (.slice (some ⟨g i, 0, none⟩) n (c i)) := by simp [rowsV, h]
theorem rowsV_succ (g c : Nat → Nat) (n k : Nat) : rowsV g c n (k + 1) = rowsV g c n k ++ [.slice (some ⟨g k, 0, none⟩) n (c k)] := by simp [rowsV, List.range_succ]
theorem rowsV_len (g c : Nat → Nat) (n k : Nat) : (rowsV g c n k).length = k := by simp [rowsV]

structure OM (B : Nat) (g c : Nat → Nat) (k n : Nat) (w : World) (v : Value) (R : List (List Int)) : Prop where
  num : R.length = k
  len : ∀ i, i < k → (R.getD i []).length = n
  out : w.ownsRow B 22 1 v k (rowsV g c n k)
  row : ∀ i, i < k → w.ownsRow B 3 1 (.slice (some ⟨g i, 0, none⟩) n (c i)) n (ints (R.getD i []))
  apart : ∀ i j, i < k → j < k → g i = g j → i = j

theorem own_heap {B e s n : Nat} {w : World} {g cap : Nat} {xs : List Value} (h : w.ownsRow B e s (.slice (some ⟨g, 0, none⟩) n cap) n xs) : ∃ cur, w.heap[g]? = some (.cells cur e (0, 0)) := by
  rcases h.2 with ⟨h', _⟩ | ⟨g', cap', cur, h', hb, hg, _⟩
  · simp at h'
  · simp only [Value.slice.injEq, Option.some.injEq, Addr.mk.injEq, and_true, true_and] at h'
    obtain ⟨rfl, rfl⟩ := h'
    exact ⟨cur, hg⟩

theorem own_keepB {B e s n : Nat} {w W : World} {v : Value} {xs : List Value} (h : w.ownsRow B e s v n xs) (hk : ∀ g, v.ownBlock = some g → W.heap[g]? = w.heap[g]?) : W.ownsRow B e s v n xs := by
  refine ⟨h.1, ?_⟩
  rcases h.2 with h2 | ⟨g, cap, cur, rfl, hb, hh, r⟩
  · exact Or.inl h2
  · exact Or.inr ⟨g, cap, cur, rfl, hb, (hk g rfl).trans hh, r⟩

theorem OM.form {B : Nat} {g c : Nat → Nat} {k n : Nat} {w : World} {v : Value} {R : List (List Int)} (h : OM B g c k n w v R) (hk : 1 ≤ k) : ∃ G cap, v = .slice (some ⟨G, 0, none⟩) k cap ∧ B ≤ G ∧ G < w.heap.size ∧ k ≤ cap ∧ cap ≤ 9223372036854775807 := by
  rcases h.out.2 with ⟨_, h0⟩ | ⟨G, cap, cur, hv, hb, hh, h1, h2, _⟩
  · omega
  · exact ⟨G, cap, hv, hb, (h.out.lt G (by rw [hv]; rfl)).2, h1, by simpa [maxLen] using h2⟩

theorem OM.cellG {B : Nat} {g c : Nat → Nat} {k n G cap : Nat} {w : World} {R : List (List Int)} (h : OM B g c k n w (.slice (some ⟨G, 0, none⟩) k cap) R) {i : Nat} (hi : i < k) : w.cell? ⟨G, i, none⟩ = some (.slice (some ⟨g i, 0, none⟩) n (c i)) := by
  rw [h.out.cellAt i (by omega), rowsV_get hi]

theorem OM.keep {B : Nat} {g c : Nat → Nat} {k n : Nat} {w W : World} {v : Value} {R : List (List Int)} (h : OM B g c k n w v R) (hk : ∀ b, (v.ownBlock = some b ∨ ∃ i, i < k ∧ b = g i) → W.heap[b]? = w.heap[b]?) : OM B g c k n W v R :=
  ⟨h.num, h.len, own_keepB h.out (fun b hb => hk b (Or.inl hb)), fun i hi => own_keepB (h.row i hi) (fun b hb => hk b (Or.inr ⟨i, hi, by simpa [Value.ownBlock] using hb.symm⟩)), h.apart⟩

theorem OM.lt {B : Nat} {g c : Nat → Nat} {k n : Nat} {w : World} {v : Value} {R : List (List Int)} (h : OM B g c k n w v R) : ∀ b, (v.ownBlock = some b ∨ ∃ i, i < k ∧ b = g i) → B ≤ b ∧ b < w.heap.size := by
  rintro b (hb | ⟨i, hi, rfl⟩)
  · exact h.out.lt b hb
  · exact (h.row i hi).lt _ rfl

theorem OM.below {B N : Nat} {g c : Nat → Nat} {k n : Nat} {w W : World} {v : Value} {R : List (List Int)} (h : OM B g c k n w v R) (hb : Below N w W) (hN : w.heap.size ≤ N) : OM B g c k n W v R :=
  h.keep fun b hx => hb.block b (by have := (h.lt b hx).2; omega)

def updN (f : Nat → Nat) (k x : Nat) : Nat → Nat := fun i => if i = k then x else f i

theorem rowsV_upd (g c : Nat → Nat) (n k a b : Nat) : rowsV (updN g k a) (updN c k b) n k = rowsV g c n k := by
  unfold rowsV
  refine List.map_congr_left fun i hi => ?_
  have := List.mem_range.1 hi
  simp [updN, show i ≠ k by omega]

/-- A row more, in a new block. -/
theorem OM.push {B : Nat} {g c : Nat → Nat} {k n : Nat} {wa w1 w3 : World} {v v' : Value} {R : List (List Int)} {gk ck : Nat} {r : List Int} {o : Obj} (h : OM B g c k n wa v R) (hB : B ≤ wa.heap.size) (hr : r.length = n)
    (hu : w1.ownsRow wa.heap.size 3 1 (.slice (some ⟨gk, 0, none⟩) n ck) n (ints r)) (hb : Below wa.heap.size wa w1)
    (ho : w3.ownsRow B 22 1 v' (k + 1) (rowsV g c n k ++ [.slice (some ⟨gk, 0, none⟩) n ck])) (hg : (w1.alloc o).grownBy w3 v.ownBlock) : OM B (updN g k gk) (updN c k ck) (k + 1) n w3 v' (R ++ [r]) := by
  have hgk := hu.lt gk rfl
  have hv : ∀ b, v.ownBlock = some b → b < wa.heap.size ∧ ∃ cur, wa.heap[b]? = some (.cells cur 22 (0, 0)) := fun b hx => by
    refine ⟨(h.out.lt b hx).2, ?_⟩
    rcases h.out.2 with ⟨h1, _⟩ | ⟨G, cap, cur, h1, _, hh, _⟩
    · rw [h1] at hx; simp [Value.ownBlock] at hx
    · rw [h1] at hx
      simp only [Value.ownBlock, Option.some.injEq] at hx
      subst hx
      exact ⟨cur, hh⟩
  have hgl : ∀ i, i < k → g i < wa.heap.size := fun i hi => ((h.row i hi).lt _ rfl).2
  have hold : ∀ i, i < k → w3.heap[g i]? = wa.heap[g i]? := fun i hi => by
    have h1 := hgl i hi
    have h2 := hb.size
    refine (hg.block (g i) (by simp; omega) (fun e => ?_)).trans ((Below.heap_alloc _ _ _ (by omega)).trans (hb.block _ h1))
    obtain ⟨_, cur, hc⟩ := hv (g i) e.symm
    obtain ⟨cur', hc'⟩ := own_heap (h.row i hi)
    rw [hc] at hc'
    simp at hc'
  refine ⟨by simp [h.num], fun i hi => ?_, ?_, fun i hi => ?_, fun i j hi hj e => ?_⟩
  · by_cases e : i < k
    · rw [List.getD_eq_getElem?_getD, List.getElem?_append_left (by rw [h.num]; exact e), ← List.getD_eq_getElem?_getD]
      exact h.len i e
    · have : i = R.length := by rw [h.num]; omega
      subst this
      simpa using hr
  · rw [rowsV_succ, rowsV_upd]
    simp only [updN, if_true]
    exact ho
  · by_cases e : i < k
    · have e1 : (R ++ [r]).getD i [] = R.getD i [] := by
        rw [List.getD_eq_getElem?_getD, List.getElem?_append_left (by rw [h.num]; exact e), ← List.getD_eq_getElem?_getD]
      rw [e1]
      simp only [updN, show i ≠ k by omega, if_false]
      exact own_keepB (h.row i e) (fun b hx => by
        simp only [Value.ownBlock, Option.some.injEq] at hx
        subst hx
        exact hold i e)
    · have : i = k := by omega
      subst this
      have e1 : (R ++ [r]).getD i [] = r := by
        have := h.num
        subst this
        simp
      rw [e1]
      simp only [updN, if_true]
      have hk : w3.ownsRow wa.heap.size 3 1 (.slice (some ⟨gk, 0, none⟩) n ck) n (ints r) := own_keepB hu (fun b hx => by
        simp only [Value.ownBlock, Option.some.injEq] at hx
        subst hx
        refine (hg.block gk (by simp; omega) (fun e => ?_)).trans (Below.heap_alloc _ _ _ (by omega))
        have := (hv gk e.symm).1
        omega)
      refine ⟨hk.1, ?_⟩
      rcases hk.2 with h2 | ⟨g', cap, cur, h1, h2, r⟩
      · exact Or.inl h2
      · exact Or.inr ⟨g', cap, cur, h1, by omega, r⟩
  · by_cases ei : i = k
    · by_cases ej : j = k
      · omega
      · simp only [updN, ei, ej, if_true, if_false] at e
        have := hgl j (by omega)
        omega
    · by_cases ej : j = k
      · simp only [updN, ei, ej, if_true, if_false] at e
        have := hgl i (by omega)
        omega
      · simp only [updN, ei, ej, if_false] at e
        exact h.apart i j (by omega) (by omega) e


theorem OM.nil (B : Nat) (g c : Nat → Nat) (n : Nat) (w : World) : OM B g c 0 n w (.slice none 0 0) [] :=
  ⟨rfl, fun i hi => by omega, World.ownsRow_nil _ _ _ _, fun i hi => by omega, fun i j hi => by omega⟩

/-- One row is another now. -/
theorem OM.turn {B : Nat} {g c : Nat → Nat} {k n : Nat} {w w' : World} {v : Value} {R : List (List Int)} (h : OM B g c k n w v R) {j : Nat} (hj : j < k) {r : List Int} (hr : r.length = n)
    (ho : w'.ownsRow B 3 1 (.slice (some ⟨g j, 0, none⟩) n (c j)) n (ints r)) (hb : ∀ b, b ≠ g j → w'.heap[b]? = w.heap[b]?) : OM B g c k n w' v (R.set j r) := by
  obtain ⟨cur, hcur⟩ := own_heap (h.row j hj)
  have hjR : j < R.length := by rw [h.num]; exact hj
  refine ⟨by rw [List.length_set]; exact h.num, fun a ha => ?_, own_keepB h.out (fun b hx => hb b fun e => ?_), fun a ha => ?_, h.apart⟩
  · by_cases e : a = j
    · subst e; simp [hjR, hr]
    · have := h.len a ha
      rw [show (R.set j r).getD a [] = R.getD a [] by simp [List.getD_eq_getElem?_getD, List.getElem?_set_ne (Ne.symm e)]]
      exact this
  · subst e
    rcases h.out.2 with ⟨rfl, _⟩ | ⟨G, cap, cur', rfl, _, hh, _⟩
    · simp [Value.ownBlock] at hx
    · simp only [Value.ownBlock, Option.some.injEq] at hx
      subst hx
      rw [hcur] at hh
      simp at hh
  · by_cases e : a = j
    · subst e
      rw [show (R.set a r).getD a [] = r by simp [hjR]]
      exact ho
    · rw [show (R.set j r).getD a [] = R.getD a [] by simp [List.getD_eq_getElem?_getD, List.getElem?_set_ne (Ne.symm e)]]
      exact own_keepB (h.row a ha) (fun b hx => hb b fun e3 => e (by
        simp only [Value.ownBlock, Option.some.injEq] at hx
        exact h.apart a j ha hj (by omega)))

end Go.Proofs.YtkdileeahbaobaaDoor
