/- What is reached by pairs. -/
import Derived.Test.YtcmemhdlendlkaaDoorPs1
import Derived.Test.YtcmemhdlendlkaaDoorNat0
namespace Go.Proofs.YtcmemhdlendlkaaDoor
open Go.RowKit

/-- Reached by one pair or more. -/
inductive Rch (es : List (Nat × Nat)) : Nat → Nat → Prop
  | one {x y : Nat} : (x, y) ∈ es → Rch es x y
  | step {x y z : Nat} : Rch es x y → (y, z) ∈ es → Rch es x z

theorem Rch.trans {es : List (Nat × Nat)} {x y z : Nat} (h1 : Rch es x y) (h2 : Rch es y z) : Rch es x z := by
  induction h2 with
  | one h => exact .step h1 h
  | step _ h ih => exact .step ih h

theorem prF_has {es : List (Nat × Nat)} {x y : Nat} (h : (x, y) ∈ es) : (prF es x).testBit y = true := by
  have key : ∀ (es : List (Nat × Nat)) (s : Nat), (s.testBit y = true ∨ (x, y) ∈ es) → (es.foldl (fun s e => if e.1 = x then s ||| 2 ^ e.2 else s) s).testBit y = true := by
    intro es
    induction es with
    | nil => intro s hs; simpa using hs
    | cons e es ih =>
      intro s hs
      rw [List.foldl_cons]
      refine ih _ ?_
      rcases hs with hs | hs
      · refine .inl ?_
        split
        · rw [Nat.testBit_or, hs]; rfl
        · exact hs
      · rcases List.mem_cons.1 hs with rfl | hs
        · refine .inl ?_
          rw [if_pos rfl, Nat.testBit_or, Nat.testBit_two_pow]
          simp
        · exact .inr hs
  exact key es 0 (.inr h)

theorem war_mono (f : Nat → Nat) : ∀ (m i k : Nat), (f i).testBit k = true → (war m f i).testBit k = true
  | 0, i, k, h => h
  | m + 1, i, k, h => by
    simp only [war]
    rw [wst_bit]
    exact .inl (war_mono f m i k h)

theorem war_rch {es : List (Nat × Nat)} : ∀ (m i k : Nat), (war m (prF es) i).testBit k = true → Rch es i k
  | 0, i, k, h => .one (prF_bit es i k h)
  | m + 1, i, k, h => by
    simp only [war] at h
    rw [wst_bit] at h
    rcases h with h | ⟨h1, h2⟩
    · exact war_rch m i k h
    · exact (war_rch m i m h1).trans (war_rch m m k h2)

theorem upF_rch {n : Nat} {es : List (Nat × Nat)} (hes : ∀ e ∈ es, e.1 < n ∧ e.2 < n) {i b : Nat} : (upF n es i).testBit b = true ↔ Rch es i b := by
  refine ⟨fun h => war_rch n i b h, fun h => ?_⟩
  induction h with
  | one h => exact war_mono _ n _ _ (prF_has h)
  | step _ h ih => exact war_tr _ n _ _ _ (hes _ h).1 ih (war_mono _ n _ _ (prF_has h))

/-- The list that grows, and the set of what is behind its first. -/
structure AoI (n : Nat) (es : List (Nat × Nat)) (i : Nat) (tl : List Nat) (s : Nat) : Prop where
  nd : tl.Nodup
  bit : ∀ x, s.testBit x = true ↔ x ∈ tl
  rch : ∀ x ∈ tl, Rch es i x ∧ x < n

theorem AoI.start (n : Nat) (es : List (Nat × Nat)) (i : Nat) : AoI n es i [] 0 := ⟨by simp, fun x => by simp, fun x hx => by simp at hx⟩

theorem AoI.lt {n : Nat} {es : List (Nat × Nat)} {i : Nat} {tl : List Nat} {s : Nat} (h : AoI n es i tl s) : s < 2 ^ n := by
  refine Nat.lt_pow_two_of_testBit _ fun k hk => ?_
  cases hb : s.testBit k
  · rfl
  · have := (h.rch k ((h.bit k).1 hb)).2
    omega

theorem AoI.len {n : Nat} {es : List (Nat × Nat)} {i : Nat} {tl : List Nat} {s : Nat} (h : AoI n es i tl s) : tl.length ≤ n := by
  have := nodup_len tl (List.range n) h.nd (fun x hx => List.mem_range.2 (h.rch x hx).2)
  simpa using this

theorem AoI.snoc {n : Nat} {es : List (Nat × Nat)} {i x b : Nat} {tl : List Nat} {s : Nat} (h : AoI n es i tl s) (hx : x ∈ i :: tl) (hb : (x, b) ∈ es) (hn : b < n) (h0 : s.testBit b = false) : AoI n es i (tl ++ [b]) (s ||| 2 ^ b) := by
  have hnb : b ∉ tl := fun e => by
    rw [(h.bit b).2 e] at h0
    cases h0
  refine ⟨?_, fun y => ?_, fun y hy => ?_⟩
  · rw [List.nodup_append]
    refine ⟨h.nd, by simp, fun y hy z hz => ?_⟩
    rw [List.mem_singleton] at hz
    subst hz
    exact fun e => hnb (e ▸ hy)
  · rw [Nat.testBit_or, Bool.or_eq_true, h.bit y, Nat.testBit_two_pow, List.mem_append, List.mem_singleton, decide_eq_true_eq]
    constructor
    · rintro (e | e)
      · exact .inl e
      · exact .inr e.symm
    · rintro (e | e)
      · exact .inl e
      · exact .inr e.symm
  · rcases List.mem_append.1 hy with hy | hy
    · exact h.rch y hy
    · rw [List.mem_singleton] at hy
      subst hy
      refine ⟨?_, hn⟩
      rcases List.mem_cons.1 hx with rfl | hx
      · exact .one hb
      · exact .step (h.rch x hx).1 hb

theorem AoI.done {n : Nat} {es : List (Nat × Nat)} {i : Nat} {tl : List Nat} {s : Nat} (h : AoI n es i tl s) (hes : ∀ e ∈ es, e.1 < n ∧ e.2 < n) (hc : ∀ x ∈ i :: tl, ∀ b, (x, b) ∈ es → s.testBit b = true) : s = upF n es i := by
  refine Nat.eq_of_testBit_eq fun b => ?_
  rw [Bool.eq_iff_iff, upF_rch hes]
  constructor
  · intro hb
    exact (h.rch b ((h.bit b).1 hb)).1
  · intro hr
    induction hr with
    | one e => exact hc _ (by simp) _ e
    | step _ e ih => exact hc _ (List.mem_cons_of_mem _ ((h.bit _).1 ih)) _ e

end Go.Proofs.YtcmemhdlendlkaaDoor
