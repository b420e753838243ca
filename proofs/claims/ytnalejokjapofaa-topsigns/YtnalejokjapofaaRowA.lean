import Derived.Test.YtnalejokjapofaaRow3
import Derived.Test.YtnalejokjapofaaOfAll
import Derived.Test.YtnalejokjapofaaRefB
/- What is done with each choice: its row, if there is one, is kept. -/
namespace Go.Proofs.Ytnalejokjapofaa
open Go.RowKit
attribute [local go_sem ↓] Go.wp_at_zero Go.wp_at_succ

/-- All below M is as it was, but block R. -/
structure But (M R : Nat) (w w' : World) : Prop where
  os : w'.os = w.os
  tape : w'.tape = w.tape
  output : w'.output = w.output
  size : w.heap.size ≤ w'.heap.size
  block : ∀ b, b < M → b ≠ R → w'.heap[b]? = w.heap[b]?

theorem But.of_below {M R : Nat} {w w' : World} (h : Below M w w') : But M R w w' := ⟨h.os, h.tape, h.output, h.size, fun b hb _ => h.block b hb⟩

theorem But.setCell {M R j : Nat} {w w' : World} (h : But M R w w') (u : Value) : But M R w (w'.setCell ⟨R, j, none⟩ u) :=
  ⟨h.os, h.tape, h.output, by simp [World.setCell, h.size], fun b hb hne => (Below.heap_setCell _ _ _ _ hne).trans (h.block b hb hne)⟩

theorem set_one {w : World} {b : Nat} {x u : Value} {t : TypeId} (h : w.heap[b]? = some (.cells #[x] t (0, 0))) : (w.setCell ⟨b, 0, none⟩ u).heap[b]? = some (.cells #[u] t (0, 0)) := by
  simp [World.setCell, Array.getElem?_modify, h]

theorem owns_set {B R n j : Nat} {e : TypeId} {w : World} {v u : Value} {xs : List Value} (h : w.ownsRow B e 1 v n xs) (hR : R < B) : (w.setCell ⟨R, j, none⟩ u).ownsRow B e 1 v n xs := by
  refine ⟨h.1, ?_⟩
  rcases h.2 with h2 | ⟨k, cap, cur, rfl, hb, hh, r⟩
  · exact Or.inl h2
  · exact Or.inr ⟨k, cap, cur, rfl, hb, (Below.heap_setCell w _ u k (by show k ≠ R; omega)).trans hh, r⟩

/-- Behind a store into a block of another element type. -/
theorem Fr.set {B b j : Nat} {t : TypeId} {w : World} {v u : Value} {m : List (List Int)} {cur : Array Value} (h : Fr B 22 3 w v m) (hb : b < B) (hR : w.heap[b]? = some (.cells cur t (0, 0))) (ht : t ≠ 3) : Fr B 22 3 (w.setCell ⟨b, j, none⟩ u) v m := by
  obtain ⟨vs, h1, h2, h3⟩ := h
  refine ⟨vs, h1, owns_set h2 hb, fun i hi => (h3 i hi).setCell u ⟨Nat.zero_le _, fun cur' e => ?_⟩⟩
  have e' : w.heap[b]? = some (.cells cur' 3 (0, 0)) := e
  rw [hR] at e'
  simp at e'
  exact ht e'.2

end Go.Proofs.Ytnalejokjapofaa

/- All choices of points, one after another: their rows. -/
namespace Go.Proofs.Ytnalejokjapofaa
open Go.RowKit

/-- All choices of k out of a list, in their order. -/
def chs : Nat → List (List Int) → List (List (List Int))
  | 0, _ => [[]]
  | _ + 1, [] => []
  | k + 1, x :: xs => ((chs k xs).map (x :: ·)) ++ chs (k + 1) xs

theorem chs_len : ∀ k l, (chs k l).length ≤ (l.length + 1) ^ k
  | 0, _ => by simp [chs]
  | k + 1, [] => by simp [chs]
  | k + 1, x :: xs => by
    have h1 := chs_len k xs
    have h2 := chs_len (k + 1) xs
    simp only [chs, List.length_append, List.length_map, List.length_cons]
    have h3 : (xs.length + 1) ^ (k + 1) = (xs.length + 1) ^ k * (xs.length + 1) := Nat.pow_succ _ _
    have h4 : (xs.length + 1 + 1) ^ (k + 1) = (xs.length + 1 + 1) ^ k * (xs.length + 1 + 1) := Nat.pow_succ _ _
    have h5 : (xs.length + 1) ^ k ≤ (xs.length + 1 + 1) ^ k := Nat.pow_le_pow_left (by omega) k
    have h6 : (xs.length + 1) ^ k * (xs.length + 1) + (xs.length + 1) ^ k ≤ (xs.length + 1 + 1) ^ k * (xs.length + 1 + 1) := by
      have : (xs.length + 1) ^ k * (xs.length + 1) + (xs.length + 1) ^ k = (xs.length + 1) ^ k * (xs.length + 1 + 1) := (Nat.mul_succ _ _).symm
      rw [this]; exact Nat.mul_le_mul_right _ h5
    omega

/-- The rows of all choices that begin so. -/
def rowsC (P pre : List (List Int)) (k : Nat) (l : List (List Int)) : List (List Int) := (chs k l).flatMap fun c => (rowT (pre ++ c) P).toList

theorem rowsC_len (P pre : List (List Int)) (k : Nat) (l : List (List Int)) : (rowsC P pre k l).length ≤ (chs k l).length := by
  unfold rowsC
  have : ∀ L : List (List (List Int)), (L.flatMap fun c => (rowT (pre ++ c) P).toList).length ≤ L.length := by
    intro L
    induction L with
    | nil => simp
    | cons c L ih =>
      simp only [List.flatMap_cons, List.length_append, List.length_cons]
      have : (rowT (pre ++ c) P).toList.length ≤ 1 := by cases rowT (pre ++ c) P <;> simp
      omega
  exact this _

theorem rowsC_zero (P pre l : List (List Int)) : rowsC P pre 0 l = (rowT pre P).toList := by simp [rowsC, chs]

theorem rowsC_nil (P pre : List (List Int)) (k : Nat) : rowsC P pre (k + 1) [] = [] := by simp [rowsC, chs]

theorem rowsC_cons (P pre : List (List Int)) (k : Nat) (x : List Int) (xs : List (List Int)) : rowsC P pre (k + 1) (x :: xs) = rowsC P (pre ++ [x]) k xs ++ rowsC P pre (k + 1) xs := by
  simp only [rowsC, chs, List.flatMap_append, List.flatMap_map, List.append_assoc, List.singleton_append]

theorem chs_chz : ∀ (k : Nat) (l : List (List Int)), chs k l = chz k l
  | 0, l => by cases l <;> simp [chs, chz]
  | k + 1, [] => by simp [chs, chz]
  | k + 1, x :: xs => by
    simp only [chs, chz]
    rw [chs_chz k xs, chs_chz (k + 1) xs]

/-- The rows of the choices, by numbers. -/
theorem rows_ext (P : List (List Int)) (d : Nat) : (ext P.length d 0).flatMap (fun c => (rowT (pks P [] c) P).toList) = rowsC P [] d P := by
  unfold rowsC
  have h := chz_ext P [] d 0
  rw [List.drop_zero] at h
  rw [chs_chz, ← h, List.flatMap_map]
  simp

end Go.Proofs.Ytnalejokjapofaa

/- Choices by numbers: the document's are the program's. -/
namespace Go.Proofs.Ytnalejokjapofaa
open Go.RowKit

theorem ext_all : ∀ (k : Nat) {n fr : Nat} {c : List Int}, c.length = k → (∀ i, i < k → (fr : Int) ≤ c.getD i 0 ∧ c.getD i 0 < n) → (∀ i j, i < j → j < k → c.getD i 0 < c.getD j 0) → c ∈ ext n k fr
  | 0, n, fr, c, hl, _, _ => by
    have := List.eq_nil_of_length_eq_zero hl
    subst this
    simp [ext]
  | k + 1, n, fr, c, hl, hb, hr => by
    cases c with
    | nil => simp at hl
    | cons a c =>
      have h0 := hb 0 (by omega)
      simp only [List.getD_cons_zero] at h0
      simp only [ext, List.mem_flatMap, List.mem_map, List.mem_range'_1]
      refine ⟨a.toNat, by omega, c, ext_all k (by simpa using hl) (fun i hi => ?_) (fun i j hij hj => ?_), by congr 1; omega⟩
      · have h1 := hb (i + 1) (by omega)
        have h2 := hr 0 (i + 1) (by omega) (by omega)
        simp only [List.getD_cons_succ, List.getD_cons_zero] at h1 h2
        exact ⟨by omega, h1.2⟩
      · have h2 := hr (i + 1) (j + 1) (by omega) (by omega)
        simpa only [List.getD_cons_succ] using h2

theorem chosen_ext {k n : Nat} {c : List Int} : c ∈ chosenL k n ↔ c ∈ ext n k 0 := by
  constructor
  · intro h
    obtain ⟨h1, h2⟩ := chosen_mem k n c h
    exact ext_all k (chosen_row k n c h) (fun i hi => by have := h1 i hi; exact ⟨by simpa using this.1, this.2⟩) h2
  · intro h
    obtain ⟨h1, h2, h3⟩ := ext_rise h
    have := chosen_all k n (fun i => (c.getD i 0).toNat) ⟨fun i j hij hj => by
      have q1 := h3 i j hij hj
      have q2 := h2 i (by omega)
      show (c.getD i 0).toNat < (c.getD j 0).toNat
      omega, fun i hi => by
      have q2 := h2 i hi
      show (c.getD i 0).toNat < n
      omega⟩
    have e : ((List.range k).map fun i => (((c.getD i 0).toNat : Nat) : Int)) = c := by
      apply List.ext_getElem
      · simp [h1]
      · intro i q1 q2
        have := h2 i (by omega)
        have e2 : c.getD i 0 = c[i] := by simp [show i < c.length by omega]
        simp only [List.getElem_map, List.getElem_range]
        rw [← e2]
        omega
    rw [e] at this
    exact this

/-- The rows of the document's choices. -/
def rowsD (P : List (List Int)) (d : Nat) : List (List Int) := (chosenL d P.length).flatMap fun c => (rowT (pks P [] c) P).toList

theorem mem_rowsD {P : List (List Int)} {d : Nat} {r : List Int} : r ∈ rowsD P d ↔ r ∈ rowsC P [] d P := by
  rw [← rows_ext]
  unfold rowsD
  simp only [List.mem_flatMap]
  constructor
  · rintro ⟨c, hc, h⟩
    exact ⟨c, chosen_ext.1 hc, h⟩
  · rintro ⟨c, hc, h⟩
    exact ⟨c, chosen_ext.2 hc, h⟩
end Go.Proofs.Ytnalejokjapofaa
