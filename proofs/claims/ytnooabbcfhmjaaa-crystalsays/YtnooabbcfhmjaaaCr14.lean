/- crystal.All. -/
import Derived.Test.YtnooabbcfhmjaaaCr13
import Derived.Test.YtnooabbcfhmjaaaSrk
import Derived.Maps.OwnOps
namespace Go.Proofs.Ytnooabbcfhmjaaa
open Go.RowKit
attribute [local go_sem ↓] Go.wp_at_zero Go.wp_at_succ

def S8 : KeyS := ⟨53, unitElem, octL, .agg [], .agg []⟩

theorem zeroE (w : World) : (zeroValue 55).run Try.prog w = .ok (.agg #[]) w := by kernel_rfl

theorem map56 : Try.prog.underlying 56 = some (.map 53 55) := by kernel_rfl

theorem octL_key (x : List Nat) : WideAt.IsKeyLit (octL x) := trivial

theorem Fr.base0 {B B' : Nat} {w : World} {v : Value} {m : List (List Int)} (h : Fr B 22 3 w v m) (hB : B' ≤ B) : Fr B' 22 3 w v m := by
  obtain ⟨vs, h1, h2, h3⟩ := h
  exact ⟨vs, h1, own_low h2 hB, h3⟩

theorem Fr.blk {B : Nat} {w : World} {v : Value} {m : List (List Int)} (h : Fr B 22 3 w v m) : ∀ g, v.ownBlock = some g → B ≤ g ∧ g < w.heap.size := by
  obtain ⟨vs, h1, h2, h3⟩ := h
  exact fun g hg => h2.lt g hg

/-- As far as the inner loop is. -/
structure InI (w : World) (n : Nat) (wd x : List Nat) (N : List (List Nat)) (k l0 b : Nat) (nv v iv : Value) (wq : World) (L : List (List Nat)) (j : Nat) : Prop where
  iv : iv = .int .i64 (j : Int)
  le : j ≤ N.length
  p : AllP n wd L k
  kl : k < L.length
  gx : L.getD k [] = x
  len : L.length ≤ l0 + j
  got : ∀ i, i < j → N.getD i [] ∈ L
  ai : AllI S8 w n wd.length L L v b wq
  nr : Fr w.heap.size 22 3 wq nv (N.map natsI)
  nb : nv.ownBlock ≠ some b
  ap : ∀ g, v.ownBlock = some g → nv.ownBlock ≠ some g

/-- What comes back: all of them in order, or that they are too many. -/
structure AllR (w : World) (n : Nat) (wd : List Nat) (e : Ending) (w' : World) : Prop where
  ex : (∃ u L s, e = .returned (.tuple #[u, .int .i64 0]) ∧ All n wd L ∧ L.length ≤ 400 ∧ Fr w.heap.size 22 3 w' u s ∧ SAsc s ∧ ∀ r, r ∈ s ↔ r ∈ L.map natsI) ∨ ∃ M : List (List Nat), e = .returned (.tuple #[.slice none 0 0, .int .i64 11]) ∧ M.Nodup ∧ (∀ x ∈ M, Rch n wd x) ∧ 400 < M.length
  bel : Below w.heap.size w w'

/-- As far as the outer loop is. -/
structure OutI (w : World) (n : Nat) (wd : List Nat) (b : Nat) (v iv : Value) (wq : World) (L : List (List Nat)) (k : Nat) : Prop where
  iv : iv = .int .i64 (k : Int)
  p : AllP n wd L k
  len : L.length ≤ 400
  ai : AllI S8 w n wd.length L L v b wq

theorem nodup_asc {s : List (List Int)} (hn : s.Nodup) (h : ∀ i j, i < j → j < s.length → ¬ cmpL (s.getD j []) (s.getD i []) < 0) : SAsc s := by
  unfold SAsc
  rw [List.pairwise_iff_getElem]
  intro i j hi hj hij
  have h1 := h i j hij hj
  have e1 : s.getD j [] = s[j] := by simp [hj]
  have e2 : s.getD i [] = s[i] := by simp [hi]
  rw [e1, e2] at h1
  have hne : s[i] ≠ s[j] := fun e => by
    have := (List.nodup_iff_pairwise_ne.1 hn)
    rw [List.pairwise_iff_getElem] at this
    exact this i j hi hj hij e
  exact Classical.byContradiction fun h2 => hne (cmpL_eq _ _ h2 h1)

end Go.Proofs.Ytnooabbcfhmjaaa
