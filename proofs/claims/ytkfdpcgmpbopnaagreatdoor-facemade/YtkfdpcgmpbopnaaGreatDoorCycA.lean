/- Cyclic's own loop. -/
import Derived.Test.YtkfdpcgmpbopnaaGreatDoorCycAll
namespace Go.Proofs.YtkfdpcgmpbopnaaGreatDoor
open Go.RowKit

/-- Is one of the first k points too far? -/
def cfar (n d k : Nat) : Bool := (cpts n d k).any fun x => x.any (farB · 100)

theorem cfar_succ (n d k : Nat) (h : cfar n d k = false) : cfar n d (k + 1) = (pw ((k : Int) - (n : Int) / 2) d).any (farB · 100) := by
  unfold cfar at h ⊢; simp only [cpts, List.any_append, h, List.any_cons, List.any_nil, Bool.or_false, Bool.false_or]

theorem cfar_mono (n d : Nat) {k j : Nat} (hkj : k ≤ j) (h : cfar n d k = true) : cfar n d j = true := by
  induction j with
  | zero => have : k = 0 := by omega
            subst this; exact h
  | succ j ih =>
    by_cases e : k ≤ j
    · have := ih e
      unfold cfar at this ⊢; simp only [cpts, List.any_append, this, Bool.true_or]
    · have : k = j + 1 := by omega
      subst this; exact h

/-- The answer's error, dimension and points. -/
def cE (n d : Nat) : Int := if cfar n d n then 11 else 0
def cD (n d : Nat) : Int := if cfar n d n then 0 else d
def cP (n d : Nat) : List (List Int) := if cfar n d n then [] else cpts n d n

theorem cyc_far {n d : Nat} (h : cfar n d n = true) : cE n d = 11 ∧ cD n d = 0 ∧ cP n d = [] := by simp [cE, cD, cP, h]
theorem cyc_near {n d : Nat} (h : cfar n d n = false) : cE n d = 0 ∧ cD n d = d ∧ cP n d = cpts n d n := by simp [cE, cD, cP, h]

/-- What a loop that builds a polytope's points keeps: the result's cell, the polytope's cells, the rows. -/
structure Poly (N : Nat) (d : Int) (w wr : World) (v : Value) (m : List (List Int)) : Prop where
  res : wr.heap[N]? = some (.cells #[.int .i64 0, .slice none 0 0] 27 (0, 0))
  pol : wr.heap[N + 1]? = some (.cells #[.int .i64 d, v] 27 (0, 0))
  rows : Rws N 22 3 wr v m
  bel : Below N w wr

theorem Poly.step {N : Nat} {d : Int} {w wr w1 : World} {v : Value} {m : List (List Int)} (h : Poly N d w wr v m) (hb : Below wr.heap.size wr w1) : Poly N d w w1 v m := by
  have h1 := lt_of_block h.res
  have h2 := lt_of_block h.pol
  exact ⟨(hb.block _ h1).trans h.res, (hb.block _ h2).trans h.pol, h.rows.below hb (Nat.le_refl _), h.bel.trans (hb.mono (by omega))⟩

theorem two_setCell {w : World} {b : Nat} {x y u : Value} {t : TypeId} (h : w.heap[b]? = some (.cells #[x, y] t (0, 0))) : (w.setCell ⟨b, 1, none⟩ u).heap[b]? = some (.cells #[x, u] t (0, 0)) := by
  simp [World.setCell, Array.getElem?_modify, h]

theorem two_set {w : World} {b : Nat} {x y u v : Value} {t : TypeId} (h : w.heap[b]? = some (.cells #[x, y] t (0, 0))) :
    (w.setCell ⟨b, 0, none⟩ u).cell? ⟨b, 0, none⟩ = some u ∧ ((w.setCell ⟨b, 0, none⟩ u).setCell ⟨b, 1, none⟩ v).cell? ⟨b, 1, none⟩ = some v := by
  constructor
  · simp [World.cell?, World.setCell, Array.getElem?_modify, h]
  · simp [World.cell?, World.setCell, Array.getElem?_modify, h]

/-- Behind the append and the store of its answer. -/
theorem Poly.push {N : Nat} {d : Int} {w wr w1 : World} {v v' x : Value} {m : List (List Int)} {zs : List Int} {vs : List Value} (h : Poly N d w wr v m)
    (hx : Sl N 3 wr x (ints zs)) (h1 : vs.length = m.length) (h2 : wr.ownsRow N 22 1 v m.length vs) (h3 : ∀ i, i < m.length → Sl N 3 wr (vs.getD i (.slice none 0 0)) (ints (m.getD i [])))
    (ho : w1.ownsRow N 22 1 v' (m.length + 1) (vs ++ [x])) (hg : (wr.alloc (.cells #[x] 22)).grownBy w1 v.ownBlock) :
    (w1.heap[N + 1]? = some (.cells #[.int .i64 d, v] 27 (0, 0))) ∧ Poly N d w (w1.setCell ⟨N + 1, 1, none⟩ v') v' (m ++ [zs]) := by
  have n1 := lt_of_block h.res
  have n2 := lt_of_block h.pol
  have ht := owns_typed h2 (e1 := 27) (by decide)
  have hsz : (wr.alloc (.cells #[x] 22)).heap.size = wr.heap.size + 1 := by simp
  have g1 : w1.heap[N]? = some (.cells #[.int .i64 0, .slice none 0 0] 27 (0, 0)) := by
    rw [hg.block N (by omega) (fun e => (ht N e.symm).2 _ h.res), Below.heap_alloc _ _ _ n1]; exact h.res
  have g2 : w1.heap[N + 1]? = some (.cells #[.int .i64 d, v] 27 (0, 0)) := by
    rw [hg.block (N + 1) (by omega) (fun e => (ht (N + 1) e.symm).2 _ h.pol), Below.heap_alloc _ _ _ n2]; exact h.pol
  have hr : Rws N 22 3 w1 v' (m ++ [zs]) := Rws.push (by decide) h1 (h2.alloc _) (fun i hi => (h3 i hi).alloc _) (hx.alloc _) ho hg
  refine ⟨g2, ⟨?_, two_setCell g2, ?_, ?_⟩⟩
  · rw [Below.heap_setCell _ _ _ _ (by simp)]; exact g1
  · obtain ⟨us, u1, u2, u3⟩ := hr
    refine ⟨us, u1, ownsRow_setCell_other u2 (fun e => ?_) _, fun i hi => (u3 i hi).setCell _ ⟨by simp, fun cur => by simp only; rw [g2]; simp⟩⟩
    exact (owns_typed u2 (e1 := 27) (by decide) _ e).2 _ g2
  · refine ((h.bel.alloc (by omega) _).grown hg (by omega) (fun k hk => (ht k hk).1)).setCell (by simp) _

theorem Poly.done {N : Nat} {d : Int} {w wr : World} {v : Value} {m : List (List Int)} (h : Poly N d w wr v m) (a b : Value) :
    Mat N 22 3 ((wr.setCell ⟨N, 0, none⟩ a).setCell ⟨N, 1, none⟩ b) v m := by
  obtain ⟨vs, h1, h2, h3⟩ := h.rows.mat (Nat.le_refl _)
  have g0 := h.res
  have g1 : (wr.setCell ⟨N, 0, none⟩ a).heap[N]? = some (.cells #[a, .slice none 0 0] 27 (0, 0)) := by simp [World.setCell, Array.getElem?_modify, g0]
  have k0 : ∀ e, e ≠ 27 → ∀ cur, wr.heap[N]? ≠ some (.cells cur e (0, 0)) := by
    intro e he cur; rw [g0]; simp; intro _ h; exact absurd h.symm he
  have k1 : ∀ e, e ≠ 27 → ∀ cur, (wr.setCell ⟨N, 0, none⟩ a).heap[N]? ≠ some (.cells cur e (0, 0)) := by
    intro e he cur; rw [g1]; simp; intro _ h; exact absurd h.symm he
  exact ⟨vs, h1, (h2.setCell _ ⟨Nat.le_refl _, k0 22 (by decide)⟩).setCell _ ⟨Nat.le_refl _, k1 22 (by decide)⟩,
    fun i hi => ((h3 i hi).setCell _ ⟨Nat.le_refl _, k0 3 (by decide)⟩).setCell _ ⟨Nat.le_refl _, k1 3 (by decide)⟩⟩

end Go.Proofs.YtkfdpcgmpbopnaaGreatDoor
