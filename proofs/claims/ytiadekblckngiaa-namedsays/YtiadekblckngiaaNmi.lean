/- A row of rows that grows beside others that are read. -/
import Derived.Test.YtiadekblckngiaaTw9
import Derived.Deep.Onto
namespace Go.Proofs.Ytiadekblckngiaa
open Go.RowKit

theorem Fr.zero {B : Nat} {w : World} {v : Value} {m : List (List Int)} (h : Fr B 35 3 w v m) : Fr 0 35 3 w v m := by
  obtain ⟨vs, h1, h2, h3⟩ := h
  exact ⟨vs, h1, h2.mono (Nat.zero_le _), h3⟩

/-- The row that grows (out, as m), rows of rows that are read (ls), lists that are read (ss). -/
structure TrI (w : World) (out : Value) (m : List (List Int)) (ls : List (Value × List (List Int))) (ss : List (Value × List Int)) (wr : World) : Prop where
  fr : Fr w.heap.size 35 3 wr out m
  bel : Below w.heap.size w wr
  oth : ∀ p ∈ ls, Fr 0 35 3 wr p.1 p.2 ∧ Apart out p.1
  sls : ∀ p ∈ ss, Sl 0 3 wr p.1 (ints p.2)

theorem TrI.start (w : World) : TrI w (.slice none 0 0) [] [] [] w := ⟨Fr.nil _ _ _ _, Below.refl _ _, fun p hp => absurd hp (by simp), fun p hp => absurd hp (by simp)⟩

theorem TrI.below {w wr w2 : World} {out : Value} {m : List (List Int)} {ls : List (Value × List (List Int))} {ss : List (Value × List Int)} {N : Nat} (h : TrI w out m ls ss wr) (hb : Below N wr w2) (hN : wr.heap.size ≤ N) : TrI w out m ls ss w2 :=
  ⟨h.fr.below hb hN, h.bel.trans (hb.mono (Nat.le_trans h.bel.size hN)), fun p hp => ⟨(h.oth p hp).1.below hb hN, (h.oth p hp).2⟩, fun p hp => (h.sls p hp).below hb hN⟩

theorem TrI.add {w wr w2 : World} {out v : Value} {m l : List (List Int)} {ls : List (Value × List (List Int))} {ss : List (Value × List Int)} (h : TrI w out m ls ss wr) (hb : Below wr.heap.size wr w2) (hv : Fr wr.heap.size 35 3 w2 v l) : TrI w out m ((v, l) :: ls) ss w2 := by
  have h2 := h.below hb (Nat.le_refl _)
  refine ⟨h2.fr, h2.bel, fun p hp => ?_, h2.sls⟩
  rcases List.mem_cons.1 hp with rfl | hp
  · refine ⟨hv.zero, fun g hg hl => ?_⟩
    obtain ⟨_, _, q1, _⟩ := h.fr
    obtain ⟨_, _, q2, _⟩ := hv
    have := (q1.lt g hg).2
    have := (q2.lt g hl).1
    omega
  · exact h2.oth p hp

theorem TrI.addS {w wr : World} {out u : Value} {m : List (List Int)} {z : List Int} {ls : List (Value × List (List Int))} {ss : List (Value × List Int)} (h : TrI w out m ls ss wr) (hu : Sl 0 3 wr u (ints z)) : TrI w out m ls ((u, z) :: ss) wr :=
  ⟨h.fr, h.bel, h.oth, fun p hp => by
    rcases List.mem_cons.1 hp with rfl | hp
    · exact hu
    · exact h.sls p hp⟩

theorem TrI.less {w wr : World} {out : Value} {m : List (List Int)} {ls ls' : List (Value × List (List Int))} {ss ss' : List (Value × List Int)} (h : TrI w out m ls ss wr) (h1 : ∀ p ∈ ls', p ∈ ls) (h2 : ∀ p ∈ ss', p ∈ ss) : TrI w out m ls' ss' wr :=
  ⟨h.fr, h.bel, fun p hp => h.oth p (h1 p hp), fun p hp => h.sls p (h2 p hp)⟩

theorem TrI.form {w wr : World} {out : Value} {m : List (List Int)} {ls : List (Value × List (List Int))} {ss : List (Value × List Int)} (h : TrI w out m ls ss wr) : ∃ oo oc, out = .slice oo m.length oc := by
  obtain ⟨vs, g1, g2, g3⟩ := h.fr
  exact owns_form g2

theorem TrI.push {w wr : World} {out u : Value} {m : List (List Int)} {z : List Int} {ls : List (Value × List (List Int))} {ss : List (Value × List Int)} (h : TrI w out m ls ss wr) (hu : Sl 0 3 wr u (ints z)) :
    ∃ vs, wr.ownsRow w.heap.size 35 1 out m.length vs ∧ w.heap.size ≤ wr.heap.size ∧ ∀ v' w', w'.ownsRow w.heap.size 35 1 v' (m.length + 1) (vs ++ [u]) → (wr.alloc (.cells #[u] 35)).grownBy w' out.ownBlock → (v'.ownBlock = out.ownBlock ∨ v'.ownBlock = some (wr.alloc (.cells #[u] 35)).heap.size) → TrI w v' (m ++ [z]) ls ss w' := by
  obtain ⟨vs, g1, g2, g3⟩ := h.fr
  refine ⟨vs, g2, h.bel.size, fun v' w' ho hg hat => ?_⟩
  have hs := h.bel.size
  refine ⟨Fr.push (by decide) g1 (g2.alloc _) (fun i hi => (g3 i hi).alloc _) (hu.alloc _) ho hg, (h.bel.alloc hs _).grown hg (by simp; omega) (fun x hx => (g2.lt x hx).1), fun p hp => ⟨((h.oth p hp).1.alloc _).kept (by decide) (g2.alloc _) hg (h.oth p hp).2, fun g hg2 hl2 => ?_⟩, fun p hp => ((h.sls p hp).alloc _).grown hg (fun k hk => ⟨Nat.zero_le _, (owns_typed (g2.alloc _) (by decide) k hk).2⟩)⟩
  rcases hat with e | e
  · rw [e] at hg2; exact (h.oth p hp).2 g hg2 hl2
  · rw [e] at hg2
    simp only [Option.some.injEq] at hg2
    obtain ⟨_, _, q2, _⟩ := (h.oth p hp).1
    have := (q2.lt g hl2).2
    simp at hg2
    omega

end Go.Proofs.Ytiadekblckngiaa
