import Derived.Test.YtdbfkjnnlomklaaTpA
import Derived.Test.YtdbfkjnnlomklaaDaA
import Derived.Deep.OwnRows
import Derived.Test.YtdbfkjnnlomklaaRefs
import Derived.Deep.QuietTactic
import Derived.BigQuiet
/- named.isEven and named.CheckSquare. -/
namespace Go.Proofs.Ytdbfkjnnlomklaa
open Go.RowKit
attribute [local go_sem ↓] Go.wp_at_zero Go.wp_at_succ

end Go.Proofs.Ytdbfkjnnlomklaa

/- Squares whose rows are the call's own, each in a block of its own, and are written into; named.room, named.take. -/
namespace Go.Proofs.Ytdbfkjnnlomklaa
open Go.RowKit
attribute [local go_sem ↓] Go.wp_at_zero Go.wp_at_succ

def rowsV (g c : Nat → Nat) (n k : Nat) : List Value := (List.range k).map fun i => .slice (some ⟨g i, 0, none⟩) n (c i)

theorem rowsV_get {g c : Nat → Nat} {n k i : Nat} (h : i < k) : (rowsV g c n k)[i]? = some (.slice (some ⟨g i, 0, none⟩) n (c i)) := by simp [rowsV, h]
theorem rowsV_succ (g c : Nat → Nat) (n k : Nat) : rowsV g c n (k + 1) = rowsV g c n k ++ [.slice (some ⟨g k, 0, none⟩) n (c k)] := by simp [rowsV, List.range_succ]
theorem rowsV_len (g c : Nat → Nat) (n k : Nat) : (rowsV g c n k).length = k := by simp [rowsV]

structure OM (B : Nat) (g c : Nat → Nat) (k n : Nat) (w : World) (v : Value) (R : List (List Int)) : Prop where
  num : R.length = k
  len : ∀ i, i < k → (R.getD i []).length = n
  out : w.ownsRow B 22 1 v k (rowsV g c n k)
  row : ∀ i, i < k → w.ownsRow B 3 1 (.slice (some ⟨g i, 0, none⟩) n (c i)) n (ints (R.getD i []))
  apart : ∀ i j, i < k → j < k → g i = g j → i = j

theorem own_heap {B e s n : Nat} {w : World} {g cap : Nat} {xs : List Value} (h : w.ownsRow B e s (.slice (some ⟨g, 0, none⟩) n cap) n xs) : ∃ cur, w.heap[g]? = some (.cells cur e (0, 0)) := by
  rcases h.2 with ⟨h', _⟩ | ⟨g', cap', cur, h', hb, hg, _⟩
  · simp at h'
  · simp only [Value.slice.injEq, Option.some.injEq, Addr.mk.injEq, and_true, true_and] at h'
    obtain ⟨rfl, rfl⟩ := h'
    exact ⟨cur, hg⟩

theorem own_keepB {B e s n : Nat} {w W : World} {v : Value} {xs : List Value} (h : w.ownsRow B e s v n xs) (hk : ∀ g, v.ownBlock = some g → W.heap[g]? = w.heap[g]?) : W.ownsRow B e s v n xs := by
  refine ⟨h.1, ?_⟩
  rcases h.2 with h2 | ⟨g, cap, cur, rfl, hb, hh, r⟩
  · exact Or.inl h2
  · exact Or.inr ⟨g, cap, cur, rfl, hb, (hk g rfl).trans hh, r⟩

theorem OM.form {B : Nat} {g c : Nat → Nat} {k n : Nat} {w : World} {v : Value} {R : List (List Int)} (h : OM B g c k n w v R) (hk : 1 ≤ k) : ∃ G cap, v = .slice (some ⟨G, 0, none⟩) k cap ∧ B ≤ G ∧ G < w.heap.size ∧ k ≤ cap ∧ cap ≤ 9223372036854775807 := by
  rcases h.out.2 with ⟨_, h0⟩ | ⟨G, cap, cur, hv, hb, hh, h1, h2, _⟩
  · omega
  · exact ⟨G, cap, hv, hb, (h.out.lt G (by rw [hv]; rfl)).2, h1, by simpa [maxLen] using h2⟩

theorem OM.cellG {B : Nat} {g c : Nat → Nat} {k n G cap : Nat} {w : World} {R : List (List Int)} (h : OM B g c k n w (.slice (some ⟨G, 0, none⟩) k cap) R) {i : Nat} (hi : i < k) : w.cell? ⟨G, i, none⟩ = some (.slice (some ⟨g i, 0, none⟩) n (c i)) := by
  rw [h.out.cellAt i (by omega), rowsV_get hi]

theorem OM.ent {B : Nat} {g c : Nat → Nat} {k n : Nat} {w : World} {v : Value} {R : List (List Int)} (h : OM B g c k n w v R) {i j : Nat} (hi : i < k) (hj : j < n) : w.cell? ⟨g i, j, none⟩ = some (.int .i64 (ent R i j)) ∧ w.frozen? ⟨g i, j, none⟩ = false := by
  refine ⟨?_, (h.row i hi).frozenAt j⟩
  rw [(h.row i hi).cellAt j (by omega), ints_get _ _ (by rw [h.len i hi]; exact hj)]
  rfl

theorem OM.keep {B : Nat} {g c : Nat → Nat} {k n : Nat} {w W : World} {v : Value} {R : List (List Int)} (h : OM B g c k n w v R) (hk : ∀ b, (v.ownBlock = some b ∨ ∃ i, i < k ∧ b = g i) → W.heap[b]? = w.heap[b]?) : OM B g c k n W v R :=
  ⟨h.num, h.len, own_keepB h.out (fun b hb => hk b (Or.inl hb)), fun i hi => own_keepB (h.row i hi) (fun b hb => hk b (Or.inr ⟨i, hi, by simpa [Value.ownBlock] using hb.symm⟩)), h.apart⟩

theorem OM.lt {B : Nat} {g c : Nat → Nat} {k n : Nat} {w : World} {v : Value} {R : List (List Int)} (h : OM B g c k n w v R) : ∀ b, (v.ownBlock = some b ∨ ∃ i, i < k ∧ b = g i) → B ≤ b ∧ b < w.heap.size := by
  rintro b (hb | ⟨i, hi, rfl⟩)
  · exact h.out.lt b hb
  · exact (h.row i hi).lt _ rfl

theorem OM.below {B N : Nat} {g c : Nat → Nat} {k n : Nat} {w W : World} {v : Value} {R : List (List Int)} (h : OM B g c k n w v R) (hb : Below N w W) (hN : w.heap.size ≤ N) : OM B g c k n W v R :=
  h.keep fun b hx => hb.block b (by have := (h.lt b hx).2; omega)

theorem ints_set (l : List Int) (j : Nat) (z : Int) : ints (l.set j z) = (ints l).set j (.int .i64 z) := by simp [ints, List.map_set]

theorem OM.set {B : Nat} {g c : Nat → Nat} {k n : Nat} {w : World} {v : Value} {R : List (List Int)} (h : OM B g c k n w v R) {i j : Nat} (hi : i < k) (z : Int) : OM B g c k n (w.setCell ⟨g i, j, none⟩ (.int .i64 z)) v (setM R i j z) := by
  have hoth : ∀ b, b ≠ g i → (w.setCell ⟨g i, j, none⟩ (.int .i64 z)).heap[b]? = w.heap[b]? := fun b hb => Below.heap_setCell w _ _ b hb
  obtain ⟨cur, hcur⟩ := own_heap (h.row i hi)
  refine ⟨by rw [setM_len]; exact h.num, fun a ha => by rw [setM_row]; exact h.len a ha, own_keepB h.out (fun b hb => hoth b fun e => ?_), fun a ha => ?_, h.apart⟩
  · subst e
    rcases h.out.2 with ⟨rfl, _⟩ | ⟨G, cap, cur', rfl, _, hh, _⟩
    · simp [Value.ownBlock] at hb
    · simp only [Value.ownBlock, Option.some.injEq] at hb
      subst hb
      rw [hcur] at hh
      simp at hh
  · by_cases e : a = i
    · subst e
      have h1 := ((h.row a ha).stored j (.int .i64 z)).1
      have e2 : (setM R a j z).getD a [] = (R.getD a []).set j z := by
        unfold setM
        have : a < R.length := by rw [h.num]; exact ha
        simp [List.getD_eq_getElem?_getD, this]
      rw [e2, ints_set]
      exact h1
    · have e2 : (setM R i j z).getD a [] = R.getD a [] := by
        unfold setM
        simp [List.getD_eq_getElem?_getD, List.getElem?_set_ne (Ne.symm e)]
      rw [e2]
      exact own_keepB (h.row a ha) (fun b hb => hoth b fun e3 => e (by
        simp only [Value.ownBlock, Option.some.injEq] at hb
        exact h.apart a i ha hi (by omega)))

/-- An order of n numbers. -/
structure Od (n : Nat) (o : List Int) : Prop where
  len : o.length = n
  rng : ∀ i, i < n → ∃ j : Nat, o.getD i 0 = (j : Int) ∧ j < n

/-- Only these blocks are written into. -/
structure Wrt (S : Nat → Prop) (w W : World) : Prop where
  os : W.os = w.os
  tape : W.tape = w.tape
  output : W.output = w.output
  size : W.heap.size = w.heap.size
  block : ∀ b, ¬ S b → W.heap[b]? = w.heap[b]?

theorem Wrt.refl (S : Nat → Prop) (w : World) : Wrt S w w := ⟨rfl, rfl, rfl, rfl, fun _ _ => rfl⟩
theorem Wrt.set {S : Nat → Prop} {w W : World} (h : Wrt S w W) {b j : Nat} (hb : S b) (u : Value) : Wrt S w (W.setCell ⟨b, j, none⟩ u) :=
  ⟨h.os, h.tape, h.output, by rw [← h.size]; simp [World.setCell], fun x hx => (Below.heap_setCell W _ _ x (fun e => hx (by rw [show x = b from e]; exact hb))).trans (h.block x hx)⟩

end Go.Proofs.Ytdbfkjnnlomklaa
