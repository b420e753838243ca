/- tropic.Least: what a choice costs, and what holds between the rounds. -/
import Derived.Test.YtmffbaclgbmnbaaTw4
namespace Go.Proofs.Ytmffbaclgbmnbaa
open Go.RowKit Go.Shelf
attribute [local go_sem ↓] Go.wp_at_zero Go.wp_at_succ

theorem costF_bd {M : List (List Int)} (h : Sqr M) (f : Nat → Nat) : ∀ k, -((10000 * k : Nat) : Int) ≤ costF M f k ∧ costF M f k ≤ ((10000 * k : Nat) : Int)
  | 0 => by simp [costF]
  | k + 1 => by
    have h1 := costF_bd h f k
    have h2 := h.ent (i := k) (j := f k)
    simp only [costF]
    omega

theorem ord_at {n : Nat} {o : List Int} (h : IsOrd n o) (hl : o.length = n) {k : Nat} (hk : k < n) : ∃ t : Nat, o.getD k 0 = t ∧ t < n := by
  have e : o.getD k 0 = o[k]'(by omega) := by simp [show k < o.length by omega]
  have := h.1 _ (List.getElem_mem (show k < o.length by omega))
  exact ⟨(o.getD k 0).toNat, by omega, by omega⟩

/-- What Least answers. -/
def leastQ (M : List (List Int)) : Int × List Int := if sqE M = 0 then leastP M M.length (ords M.length M.length []) else (0, [])

/-- Between the rounds. -/
structure LsI (w WN : World) (s1 : Nat) (M : List (List Int)) (n : Nat) (S : Nat → Prop) (pre : List (List Int)) (W : World) : Prop where
  sn : ∀ b, S b → s1 + 1 ≤ b
  kp : Kpt (fun b => b ≠ w.heap.size + 1 ∧ b ≠ w.heap.size + 2 ∧ b ≤ s1) WN W
  os : W.os = w.os
  tape : W.tape = w.tape
  output : W.output = w.output
  sm : W.heap[w.heap.size + 1]? = some (.cells #[.int .i64 (leastP M n pre).1] 3 (0, 0))
  ch : ∃ cv, W.heap[w.heap.size + 2]? = some (.cells #[cv] 22 (0, 0)) ∧ W.ownsRow (s1 + 2) 3 1 cv (leastP M n pre).2.length (ints (leastP M n pre).2) ∧ (∀ g, cv.ownBlock = some g → ¬ S g) ∧ ((leastP M n pre).2 = [] → cv = .slice none 0 0)

theorem LsI.stab {w WN W W' : World} {s1 n : Nat} {M : List (List Int)} {pre : List (List Int)} {S S' : Nat → Prop} (h : LsI w WN s1 M n S pre W) (h3 : w.heap.size + 3 ≤ s1) (hN : WN.heap.size = s1 + 2) (hc : Chg S W W') (hs : ∀ b, S' b → S b ∨ W.heap.size ≤ b) : LsI w WN s1 M n S' pre W' := by
  have h0 := h.kp.size
  obtain ⟨cv, k1, k2, k3, k4⟩ := h.ch
  have hlow : ∀ b, b < s1 + 1 → ¬ S b := fun b hb hx => by have := h.sn b hx; omega
  refine ⟨fun b hb => ?_, h.kp.trans (Kpt.of_chg hc fun i _ hi hsi => hlow i (by omega) hsi), hc.os.trans h.os, hc.tape.trans h.tape, hc.output.trans h.output, (hc.block _ (by omega) (hlow _ (by omega))).trans h.sm, cv, (hc.block _ (by omega) (hlow _ (by omega))).trans k1, ⟨k2.1, ?_⟩, fun g hg hx => ?_, k4⟩
  · rcases hs b hb with h1 | h1
    · exact h.sn b h1
    · omega
  · rcases k2.2 with h2 | ⟨g, cap, cur, rfl, hb, hh, r⟩
    · exact Or.inl h2
    · exact Or.inr ⟨g, cap, cur, rfl, hb, (hc.block g (Array.getElem?_eq_some_iff.1 hh).1 (k3 g rfl)).trans hh, r⟩
  · rcases hs g hx with h1 | h1
    · exact k3 g hg h1
    · have := (k2.lt g hg).2; omega

end Go.Proofs.Ytmffbaclgbmnbaa
