import Derived.Test.YtknomkajibfmlaaGreatMgAJ
import Derived.Test.YtknomkajibfmlaaGreatMgAH
import Derived.Test.YtknomkajibfmlaaGreatRefs5
import Derived.Test.YtknomkajibfmlaaGreatRefs7
/- The normal when the last column's sign is turned (pure). -/
namespace Go.Proofs.YtknomkajibfmlaaGreat
open Lin

/-- Just one direction is 0 with all rows. -/
def OneDir (d : Nat) (m : List (List Int)) : Prop :=
  ∃ a : Nat → Int, (∃ i, i < d ∧ a i ≠ 0) ∧ (∀ r ∈ m, dot d (V r) a = 0) ∧ ∀ u : Nat → Int, (∀ r ∈ m, dot d (V r) u = 0) → Par d u a

theorem norm_one_iff {d : Nat} {m : List (List Int)} : normB d m = true ↔ OneDir d m := by
  constructor
  · intro h
    have hl : (pickL d m).length + 1 = d := by simpa [normB] using h
    obtain ⟨h0, h1, h2⟩ := norm_spec hl
    exact ⟨_, h0, h1, h2⟩
  · rintro ⟨a, h0, h1, h2⟩
    have hc := greedy_count (pick_greedy d m) (a := a) h0 (fun r hr => by
      obtain ⟨l, hl, rfl⟩ := mem_fm.1 hr
      exact h1 l hl) (fun u hu => h2 u (fun r hr => hu (V r) (mem_fm.2 ⟨r, hr, rfl⟩)))
    rw [fm_length] at hc
    simpa [normB] using hc

/-- A direction with its last number turned. -/
def turnK (n : Nat) (u : Nat → Int) : Nat → Int := fun i => if i = n then - u i else u i

theorem turnK_twice (n : Nat) (u : Nat → Int) : turnK n (turnK n u) = u := by
  funext i; unfold turnK; split <;> simp

theorem turnK_zero {n : Nat} {u : Nat → Int} {i : Nat} : turnK n u i = 0 ↔ u i = 0 := by
  unfold turnK; split <;> omega

theorem turnK_par {d n : Nat} {u a : Nat → Int} (h : Par d u a) : Par d (turnK n u) (turnK n a) := by
  intro i j hi hj
  have := h i j hi hj
  unfold turnK
  split <;> split <;> grind

/-- Two tables, the one's directions those of the other with the last number turned. -/
theorem one_turn {d n : Nat} {m m' : List (List Int)} (h : ∀ u : Nat → Int, (∀ r ∈ m, dot d (V r) u = 0) ↔ ∀ r ∈ m', dot d (V r) (turnK n u) = 0) : normB d m = normB d m' := by
  rw [Bool.eq_iff_iff, norm_one_iff, norm_one_iff]
  constructor
  · rintro ⟨a, ⟨i, hi, h0⟩, h1, h2⟩
    refine ⟨turnK n a, ⟨i, hi, fun e => h0 (turnK_zero.1 e)⟩, (h a).1 h1, fun u hu => ?_⟩
    have := h2 (turnK n u) ((h _).2 (by rw [turnK_twice]; exact hu))
    have := turnK_par (n := n) this
    rw [turnK_twice] at this
    exact this
  · rintro ⟨a, ⟨i, hi, h0⟩, h1, h2⟩
    refine ⟨turnK n a, ⟨i, hi, fun e => h0 (turnK_zero.1 e)⟩, (h _).2 (by rw [turnK_twice]; exact h1), fun u hu => ?_⟩
    have := turnK_par (n := n) (h2 _ ((h u).1 hu))
    rw [turnK_twice] at this
    exact this

/-- And so the normals are the same, but for the last number's sign and which way they look. -/
theorem norm_turn {d n : Nat} {m m' : List (List Int)} (h : ∀ u : Nat → Int, (∀ r ∈ m, dot d (V r) u = 0) ↔ ∀ r ∈ m', dot d (V r) (turnK n u) = 0) (hb : normB d m = true) :
    Par d (turnK n (V (normL d m))) (V (normL d m')) := by
  have hb' : normB d m' = true := by rw [← one_turn h]; exact hb
  have hl : (pickL d m).length + 1 = d := by simpa [normB] using hb
  have hl' : (pickL d m').length + 1 = d := by simpa [normB] using hb'
  exact (norm_spec hl').2.2 _ ((h _).1 (norm_spec hl).2.1)

end Go.Proofs.YtknomkajibfmlaaGreat

/- What is done with each choice: its row, if there is one, is kept. -/
namespace Go.Proofs.YtknomkajibfmlaaGreat
open Go.RowKit
attribute [local go_sem ↓] Go.wp_at_zero Go.wp_at_succ

/-- All below M is as it was, but block R. -/
structure But (M R : Nat) (w w' : World) : Prop where
  os : w'.os = w.os
  tape : w'.tape = w.tape
  output : w'.output = w.output
  size : w.heap.size ≤ w'.heap.size
  block : ∀ b, b < M → b ≠ R → w'.heap[b]? = w.heap[b]?

theorem But.of_below {M R : Nat} {w w' : World} (h : Below M w w') : But M R w w' := ⟨h.os, h.tape, h.output, h.size, fun b hb _ => h.block b hb⟩

theorem But.setCell {M R j : Nat} {w w' : World} (h : But M R w w') (u : Value) : But M R w (w'.setCell ⟨R, j, none⟩ u) :=
  ⟨h.os, h.tape, h.output, by simp [World.setCell, h.size], fun b hb hne => (Below.heap_setCell _ _ _ _ hne).trans (h.block b hb hne)⟩

theorem set_one {w : World} {b : Nat} {x u : Value} {t : TypeId} (h : w.heap[b]? = some (.cells #[x] t (0, 0))) : (w.setCell ⟨b, 0, none⟩ u).heap[b]? = some (.cells #[u] t (0, 0)) := by
  simp [World.setCell, Array.getElem?_modify, h]

theorem owns_set {B R n j : Nat} {e : TypeId} {w : World} {v u : Value} {xs : List Value} (h : w.ownsRow B e 1 v n xs) (hR : R < B) : (w.setCell ⟨R, j, none⟩ u).ownsRow B e 1 v n xs := by
  refine ⟨h.1, ?_⟩
  rcases h.2 with h2 | ⟨k, cap, cur, rfl, hb, hh, r⟩
  · exact Or.inl h2
  · exact Or.inr ⟨k, cap, cur, rfl, hb, (Below.heap_setCell w _ u k (by show k ≠ R; omega)).trans hh, r⟩

/-- Behind a store into a block of another element type. -/
theorem Fr.set {B b j : Nat} {t : TypeId} {w : World} {v u : Value} {m : List (List Int)} {cur : Array Value} (h : Fr B 38 3 w v m) (hb : b < B) (hR : w.heap[b]? = some (.cells cur t (0, 0))) (ht : t ≠ 3) : Fr B 38 3 (w.setCell ⟨b, j, none⟩ u) v m := by
  obtain ⟨vs, h1, h2, h3⟩ := h
  refine ⟨vs, h1, owns_set h2 hb, fun i hi => (h3 i hi).setCell u ⟨Nat.zero_le _, fun cur' e => ?_⟩⟩
  have e' : w.heap[b]? = some (.cells cur' 3 (0, 0)) := e
  rw [hR] at e'
  simp at e'
  exact ht e'.2

end Go.Proofs.YtknomkajibfmlaaGreat

/- All choices of points, one after another: their rows. -/
namespace Go.Proofs.YtknomkajibfmlaaGreat
open Go.RowKit

/-- All choices of k out of a list, in their order. -/
def chs : Nat → List (List Int) → List (List (List Int))
  | 0, _ => [[]]
  | _ + 1, [] => []
  | k + 1, x :: xs => ((chs k xs).map (x :: ·)) ++ chs (k + 1) xs

theorem chs_len : ∀ k l, (chs k l).length ≤ (l.length + 1) ^ k
  | 0, _ => by simp [chs]
  | k + 1, [] => by simp [chs]
  | k + 1, x :: xs => by
    have h1 := chs_len k xs
    have h2 := chs_len (k + 1) xs
    simp only [chs, List.length_append, List.length_map, List.length_cons]
    have h3 : (xs.length + 1) ^ (k + 1) = (xs.length + 1) ^ k * (xs.length + 1) := Nat.pow_succ _ _
    have h4 : (xs.length + 1 + 1) ^ (k + 1) = (xs.length + 1 + 1) ^ k * (xs.length + 1 + 1) := Nat.pow_succ _ _
    have h5 : (xs.length + 1) ^ k ≤ (xs.length + 1 + 1) ^ k := Nat.pow_le_pow_left (by omega) k
    have h6 : (xs.length + 1) ^ k * (xs.length + 1) + (xs.length + 1) ^ k ≤ (xs.length + 1 + 1) ^ k * (xs.length + 1 + 1) := by
      have : (xs.length + 1) ^ k * (xs.length + 1) + (xs.length + 1) ^ k = (xs.length + 1) ^ k * (xs.length + 1 + 1) := (Nat.mul_succ _ _).symm
      rw [this]; exact Nat.mul_le_mul_right _ h5
    omega

theorem chs_chz : ∀ (k : Nat) (l : List (List Int)), chs k l = chz k l
  | 0, l => by cases l <;> simp [chs, chz]
  | k + 1, [] => by simp [chs, chz]
  | k + 1, x :: xs => by
    simp only [chs, chz]
    rw [chs_chz k xs, chs_chz (k + 1) xs]

end Go.Proofs.YtknomkajibfmlaaGreat

/- Choices by numbers: the document's are the program's. -/
namespace Go.Proofs.YtknomkajibfmlaaGreat
open Go.RowKit

theorem ext_all : ∀ (k : Nat) {n fr : Nat} {c : List Int}, c.length = k → (∀ i, i < k → (fr : Int) ≤ c.getD i 0 ∧ c.getD i 0 < n) → (∀ i j, i < j → j < k → c.getD i 0 < c.getD j 0) → c ∈ ext n k fr
  | 0, n, fr, c, hl, _, _ => by
    have := List.eq_nil_of_length_eq_zero hl
    subst this
    simp [ext]
  | k + 1, n, fr, c, hl, hb, hr => by
    cases c with
    | nil => simp at hl
    | cons a c =>
      have h0 := hb 0 (by omega)
      simp only [List.getD_cons_zero] at h0
      simp only [ext, List.mem_flatMap, List.mem_map, List.mem_range'_1]
      refine ⟨a.toNat, by omega, c, ext_all k (by simpa using hl) (fun i hi => ?_) (fun i j hij hj => ?_), by congr 1; omega⟩
      · have h1 := hb (i + 1) (by omega)
        have h2 := hr 0 (i + 1) (by omega) (by omega)
        simp only [List.getD_cons_succ, List.getD_cons_zero] at h1 h2
        exact ⟨by omega, h1.2⟩
      · have h2 := hr (i + 1) (j + 1) (by omega) (by omega)
        simpa only [List.getD_cons_succ] using h2

theorem chosen_ext {k n : Nat} {c : List Int} : c ∈ chosenL k n ↔ c ∈ ext n k 0 := by
  constructor
  · intro h
    obtain ⟨h1, h2⟩ := chosen_mem k n c h
    exact ext_all k (chosen_row k n c h) (fun i hi => by have := h1 i hi; exact ⟨by simpa using this.1, this.2⟩) h2
  · intro h
    obtain ⟨h1, h2, h3⟩ := ext_rise h
    have := chosen_all k n (fun i => (c.getD i 0).toNat) ⟨fun i j hij hj => by
      have q1 := h3 i j hij hj
      have q2 := h2 i (by omega)
      show (c.getD i 0).toNat < (c.getD j 0).toNat
      omega, fun i hi => by
      have q2 := h2 i hi
      show (c.getD i 0).toNat < n
      omega⟩
    have e : ((List.range k).map fun i => (((c.getD i 0).toNat : Nat) : Int)) = c := by
      apply List.ext_getElem
      · simp [h1]
      · intro i q1 q2
        have := h2 i (by omega)
        have e2 : c.getD i 0 = c[i] := by simp [show i < c.length by omega]
        simp only [List.getElem_map, List.getElem_range]
        rw [← e2]
        omega
    rw [e] at this
    exact this

end Go.Proofs.YtknomkajibfmlaaGreat

/- What a choice of rows gives: the place where they are met, if there is one alone and it keeps all rows (pure). -/
namespace Go.Proofs.YtknomkajibfmlaaGreat

/-- A row whose last number has the other sign. -/
def ngR (d : Nat) (r : List Int) : List Int := r.take d ++ [-(r.getD d 0)]

theorem ngR_len {d : Nat} {r : List Int} (h : r.length = d + 1) : (ngR d r).length = d + 1 := by simp [ngR, h]

theorem ngR_get {d i : Nat} {r : List Int} (h : r.length = d + 1) (hi : i < d + 1) : (ngR d r).getD i 0 = if i = d then -(r.getD d 0) else r.getD i 0 := by
  unfold ngR
  by_cases e : i = d
  · subst e
    rw [if_pos rfl]
    simp [List.getD_eq_getElem?_getD, h]
  · rw [if_neg e]
    have hi2 : i < (r.take d).length := by simp [h]; omega
    rw [List.getD_eq_getElem?_getD, List.getElem?_append_left hi2, List.getElem?_take_of_lt (by omega), ← List.getD_eq_getElem?_getD]

/-- What a choice of rows gives: the place where they are met, if there is one alone and it keeps all rows. -/
def ptY (d : Nat) (t : List (List Int)) : List Int :=
  if (normL (d + 1) (t.map (ngR d))).getD d 0 < 0 then (normL (d + 1) (t.map (ngR d))).map (fun z => -z) else normL (d + 1) (t.map (ngR d))

def ptK (R : List (List Int)) (d : Nat) (y : List Int) : Bool := R.all fun r => decide (dotL (r.take d) y ≤ r.getD d 0 * y.getD d 0)

def ptT (R : List (List Int)) (d : Nat) (t : List (List Int)) : Option (List Int) :=
  if normB (d + 1) (t.map (ngR d)) = true ∧ (normL (d + 1) (t.map (ngR d))).getD d 0 ≠ 0 ∧ ptK R d (ptY d t) = true then some (ptY d t) else none

def ptsTo (R : List (List Int)) (d : Nat) (C : List (List Int)) (i : Nat) : List (List Int) := (C.take i).flatMap fun c => (ptT R d (pks R [] c)).toList
def ptsD (R : List (List Int)) (d : Nat) : List (List Int) := (chosenL d R.length).flatMap fun c => (ptT R d (pks R [] c)).toList

theorem ptsTo_succ (R C : List (List Int)) (d i : Nat) (h : i < C.length) : ptsTo R d C (i + 1) = ptsTo R d C i ++ (ptT R d (pks R [] (C.getD i []))).toList := by
  unfold ptsTo
  have e : C.getD i [] = C[i] := by simp [h]
  rw [List.take_succ_eq_append_getElem h, List.flatMap_append, e]
  simp

theorem ptsTo_len (R C : List (List Int)) (d : Nat) : ∀ i, (ptsTo R d C i).length ≤ i := by
  intro i
  induction i with
  | zero => simp [ptsTo]
  | succ i ih =>
    by_cases h : i < C.length
    · rw [ptsTo_succ R C d i h, List.length_append]
      have : (ptT R d (pks R [] (C.getD i []))).toList.length ≤ 1 := by cases ptT R d (pks R [] (C.getD i [])) <;> simp
      omega
    · have : ptsTo R d C (i + 1) = ptsTo R d C i := by unfold ptsTo; rw [List.take_of_length_le (by omega), List.take_of_length_le (by omega)]
      rw [this]; omega

end Go.Proofs.YtknomkajibfmlaaGreat
