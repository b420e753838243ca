/- Two rows that get one more, in whatever order: what holds in between. -/
import Derived.Test.YtmffbaclgbmnbaaNp5
import Derived.Test.YtmffbaclgbmnbaaRgI
namespace Go.Proofs.Ytmffbaclgbmnbaa
open Go.RowKit

/-- One chain: a row of type e that is the call's own, told in a box of type t; built, appended, stored. -/
structure RA (B N0 sb : Nat) (e t : TypeId) (ov new : Value) (K : Nat) (xs : List Value) (w : World) (b2 b3 b8 : Bool) (x43 x44 : Value) : Prop where
  own : b3 = false → w.ownsRow B e 1 ov K xs
  blt : b2 = true → b3 = false → ∃ q, x43 = .slice (some ⟨q, 0, none⟩) 1 1 ∧ w.heap[q]? = some (.cells #[new] e (0, 0)) ∧ B ≤ q
  app : b3 = true → w.ownsRow B e 1 x44 (K + 1) (xs ++ [new]) ∧ (x44.ownBlock = ov.ownBlock ∨ ∃ q, x44.ownBlock = some q ∧ N0 ≤ q)
  box0 : b8 = false → w.heap[sb]? = some (.cells #[ov] t (0, 0))
  box1 : b8 = true → w.heap[sb]? = some (.cells #[x44] t (0, 0))

theorem own_typedB {B n : Nat} {e : TypeId} {w : World} {v : Value} {xs : List Value} (h : w.ownsRow B e 1 v n xs) : ∀ b, v.ownBlock = some b → B ≤ b ∧ b < w.heap.size ∧ ∃ cur, w.heap[b]? = some (.cells cur e (0, 0)) := by
  intro b hb
  have h1 := h.lt b hb
  refine ⟨h1.1, h1.2, ?_⟩
  rcases h.2 with ⟨e1, _⟩ | ⟨G, cap, cur, e1, _, hh, _⟩
  · rw [e1] at hb; simp [Value.ownBlock] at hb
  · rw [e1] at hb
    simp only [Value.ownBlock, Option.some.injEq] at hb
    subst hb
    exact ⟨cur, hh⟩

theorem RA.keep {B N0 sb : Nat} {e t : TypeId} {ov new : Value} {K : Nat} {xs : List Value} {w w' : World} {b2 b3 b8 : Bool} {x43 x44 : Value} (h : RA B N0 sb e t ov new K xs w b2 b3 b8 x43 x44)
    (hk : ∀ b, b < w.heap.size → (B ≤ b ∧ (∃ cur, w.heap[b]? = some (.cells cur e (0, 0))) ∨ b = sb) → w'.heap[b]? = w.heap[b]?) : RA B N0 sb e t ov new K xs w' b2 b3 b8 x43 x44 := by
  have hsb : sb < w.heap.size := by
    cases b8 with
    | false => exact (Array.getElem?_eq_some_iff.1 (h.box0 rfl)).1
    | true => exact (Array.getElem?_eq_some_iff.1 (h.box1 rfl)).1
  refine ⟨fun e1 => own_keepB (h.own e1) (fun b hb => ?_), fun e1 e2 => ?_, fun e1 => ⟨own_keepB (h.app e1).1 (fun b hb => ?_), (h.app e1).2⟩, fun e1 => (hk sb hsb (.inr rfl)).trans (h.box0 e1), fun e1 => (hk sb hsb (.inr rfl)).trans (h.box1 e1)⟩
  · obtain ⟨k1, k2, k3⟩ := own_typedB (h.own e1) b hb
    exact hk b k2 (.inl ⟨k1, k3⟩)
  · obtain ⟨q, k1, k2, k3⟩ := h.blt e1 e2
    exact ⟨q, k1, (hk q (Array.getElem?_eq_some_iff.1 k2).1 (.inl ⟨k3, _, k2⟩)).trans k2, k3⟩
  · obtain ⟨k1, k2, k3⟩ := own_typedB (h.app e1).1 b hb
    exact hk b k2 (.inl ⟨k1, k3⟩)

/-- All else. -/
structure RO (N0 sA sB : Nat) (ov mv : Value) (W1 w : World) : Prop where
  os : w.os = W1.os
  tape : w.tape = W1.tape
  output : w.output = W1.output
  size : W1.heap.size ≤ w.heap.size
  block : ∀ b, b < N0 → b ≠ sA → b ≠ sB → ov.ownBlock ≠ some b → mv.ownBlock ≠ some b → w.heap[b]? = W1.heap[b]?

/-- A cell is laid. -/
theorem RA.alloc {B N0 sb : Nat} {e t : TypeId} {ov new : Value} {K : Nat} {xs : List Value} {w : World} {b2 b3 b8 : Bool} {x43 x44 : Value} (h : RA B N0 sb e t ov new K xs w b2 b3 b8 x43 x44) (o : Obj) : RA B N0 sb e t ov new K xs (w.alloc o) b2 b3 b8 x43 x44 :=
  h.keep fun _ hb _ => Below.heap_alloc _ _ _ hb

theorem RO.alloc {N0 sA sB : Nat} {ov mv : Value} {W1 w : World} (h : RO N0 sA sB ov mv W1 w) (hN : N0 ≤ W1.heap.size) (o : Obj) : RO N0 sA sB ov mv W1 (w.alloc o) :=
  ⟨h.os, h.tape, h.output, by simp; have := h.size; omega, fun b h1 h2 h3 h4 h5 => (Below.heap_alloc _ _ _ (by have := h.size; omega)).trans (h.block b h1 h2 h3 h4 h5)⟩

/-- Built. -/
theorem RA.build {B N0 sb : Nat} {e t : TypeId} {ov new : Value} {K : Nat} {xs : List Value} {w : World} {b8 : Bool} {x43 x44 : Value} (h : RA B N0 sb e t ov new K xs w false false b8 x43 x44) (hB : B ≤ w.heap.size) :
    RA B N0 sb e t ov new K xs (w.alloc (.cells #[new] e)) true false b8 (.slice (some ⟨w.heap.size, 0, none⟩) 1 1) x44 := by
  have h2 := h.alloc (.cells #[new] e)
  exact ⟨h2.own, fun _ _ => ⟨_, rfl, World.alloc_heap_new w _, hB⟩, fun h => (by cases h), h2.box0, h2.box1⟩

/-- Appended. -/
theorem RA.append {B N0 sb : Nat} {e t : TypeId} {ov new : Value} {K : Nat} {xs : List Value} {w w' : World} {b2 : Bool} {x43 x44 v' : Value} (h : RA B N0 sb e t ov new K xs w b2 false false x43 x44) (hsb : sb < B) (hN : N0 ≤ w.heap.size)
    (ho : w'.ownsRow B e 1 v' (K + 1) (xs ++ [new])) (hg : w.grownBy w' ov.ownBlock) (hat : v'.ownBlock = ov.ownBlock ∨ ∃ q, v'.ownBlock = some q ∧ w.heap.size ≤ q) :
    RA B N0 sb e t ov new K xs w' b2 true false x43 v' := by
  have hb := h.box0 rfl
  refine ⟨fun h => (by cases h), fun _ h => (by cases h), fun _ => ⟨ho, hat.imp_right fun ⟨q, k1, k2⟩ => ⟨q, k1, by omega⟩⟩, fun _ => ?_, fun h => (by cases h)⟩
  refine (hg.block sb (Array.getElem?_eq_some_iff.1 hb).1 (fun e1 => ?_)).trans hb
  have := ((h.own rfl).lt sb e1.symm).1
  omega

/-- Of the other chain a row has grown. -/
theorem RA.grown {B N0 sb : Nat} {e e' t : TypeId} {ov new mv : Value} {K k : Nat} {xs ys : List Value} {w w' : World} {b2 b3 b8 : Bool} {x43 x44 : Value} (h : RA B N0 sb e t ov new K xs w b2 b3 b8 x43 x44) (hne : e ≠ e') (hsb : sb < B)
    (hm : w.ownsRow B e' 1 mv k ys) (hg : w.grownBy w' mv.ownBlock) : RA B N0 sb e t ov new K xs w' b2 b3 b8 x43 x44 := by
  refine h.keep fun b hb hx => hg.block b hb (fun e1 => ?_)
  obtain ⟨k1, k2, cur, k3⟩ := own_typedB hm b e1.symm
  rcases hx with ⟨_, cur', hc⟩ | rfl
  · rw [k3] at hc
    simp only [Option.some.injEq, Obj.cells.injEq] at hc
    exact hne hc.2.1.symm
  · omega

theorem RO.grown {N0 sA sB : Nat} {ov mv x : Value} {W1 w w' : World} (h : RO N0 sA sB ov mv W1 w) (hN : N0 ≤ W1.heap.size) (hx : x = ov ∨ x = mv) (hg : w.grownBy w' x.ownBlock) : RO N0 sA sB ov mv W1 w' :=
  ⟨hg.os.trans h.os, hg.tape.trans h.tape, hg.output.trans h.output, Nat.le_trans h.size hg.size, fun b h1 h2 h3 h4 h5 => (hg.block b (by have := h.size; omega) (fun e => by
    rcases hx with rfl | rfl
    · exact h4 e.symm
    · exact h5 e.symm)).trans (h.block b h1 h2 h3 h4 h5)⟩

/-- Stored. -/
theorem RA.store {B N0 sb : Nat} {e t : TypeId} {ov new : Value} {K : Nat} {xs : List Value} {w : World} {b2 : Bool} {x43 x44 : Value} (h : RA B N0 sb e t ov new K xs w b2 true false x43 x44) (hsb : sb < B) :
    RA B N0 sb e t ov new K xs (w.setCell ⟨sb, 0, none⟩ x44) b2 true true x43 x44 := by
  refine ⟨fun h => (by cases h), fun _ h => (by cases h), fun _ => ⟨own_keepB (h.app rfl).1 (fun b hb => Below.heap_setCell _ _ _ _ (by show b ≠ sb; have := ((h.app rfl).1.lt b hb).1; omega)), (h.app rfl).2⟩, fun h => (by cases h), fun _ => ?_⟩
  simp [World.setCell, Array.getElem?_modify, h.box0 rfl]

theorem RA.setOther {B N0 sb so : Nat} {e t : TypeId} {ov new u : Value} {K : Nat} {xs : List Value} {w : World} {b2 b3 b8 : Bool} {x43 x44 : Value} (h : RA B N0 sb e t ov new K xs w b2 b3 b8 x43 x44) (hso : so < B) (hne : sb ≠ so) :
    RA B N0 sb e t ov new K xs (w.setCell ⟨so, 0, none⟩ u) b2 b3 b8 x43 x44 :=
  h.keep fun b _ hx => Below.heap_setCell _ _ _ _ (by
    show b ≠ so
    rcases hx with ⟨h1, _⟩ | rfl
    · omega
    · exact hne)

theorem RO.set {N0 sA sB so : Nat} {ov mv u : Value} {W1 w : World} (h : RO N0 sA sB ov mv W1 w) (hso : so = sA ∨ so = sB) : RO N0 sA sB ov mv W1 (w.setCell ⟨so, 0, none⟩ u) :=
  ⟨h.os, h.tape, h.output, by simp only [World.setCell, Array.size_modify]; exact h.size, fun b h1 h2 h3 h4 h5 => (Below.heap_setCell _ _ _ _ (by
    show b ≠ so
    rcases hso with rfl | rfl
    · exact h2
    · exact h3)).trans (h.block b h1 h2 h3 h4 h5)⟩

end Go.Proofs.Ytmffbaclgbmnbaa
