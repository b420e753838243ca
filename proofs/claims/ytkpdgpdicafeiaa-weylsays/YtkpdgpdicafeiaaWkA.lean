import Derived.Test.YtkpdgpdicafeiaaNpA
import Derived.Test.YtkpdgpdicafeiaaDatA
import Derived.Deep.OwnRows
import Derived.Test.YtkpdgpdicafeiaaRefs
import Derived.Deep.QuietTactic
import Derived.BigQuiet
import Derived.Test.YtkpdgpdicafeiaaTpA
import Derived.Test.YtkpdgpdicafeiaaRefs3
/- facetref.Piece: the square of a kind. -/
namespace Go.Proofs.Ytkpdgpdicafeiaa
open Go.RowKit
attribute [local go_sem ↓] Go.wp_at_zero Go.wp_at_succ

def pcE (i q : Nat) : Int := if q = i then 2 else if q = i + 1 ∨ q + 1 = i then -1 else 0
def pcR (n i : Nat) : List Int := (List.range n).map (pcE i)
def pcB (n k : Nat) : List (List Int) := (List.range k).map (pcR n)

/-- The square of a kind. -/
def pcL (p : UInt8 × UInt8) : List (List Int) :=
  if p.1.toNat = 66 then setM (pcB (rkP p) (rkP p)) (rkP p - 2) (rkP p - 1) (-2)
  else if p.1.toNat = 67 then setM (pcB (rkP p) (rkP p)) (rkP p - 1) (rkP p - 2) (-2)
  else if p.1.toNat = 68 then setM (setM (setM (setM (pcB (rkP p) (rkP p)) 2 3 0) 3 2 0) 1 3 (-1)) 3 1 (-1)
  else if p.1.toNat = 70 then setM (pcB (rkP p) (rkP p)) 1 2 (-2)
  else if p.1.toNat = 71 then setM (pcB (rkP p) (rkP p)) 1 0 (-3)
  else pcB (rkP p) (rkP p)

end Go.Proofs.Ytkpdgpdicafeiaa

/- All squares of names, in every order: good. -/
namespace Go.Proofs.Ytkpdgpdicafeiaa

def trM (c : List (List Int)) : List (List Int) := (List.range c.length).map fun i => (List.range c.length).map fun j => cE c j i

/-- The roots by rows. -/
def posR (c : List (List Int)) : List (List Int) := abL (trM c)

def RtP (c R : List (List Int)) : Prop :=
  R.Nodup ∧ (∀ b ∈ R, b.length = c.length) ∧ (∀ b ∈ R, ∀ k, k < c.length → 0 ≤ b.getD k 0) ∧ (∀ b ∈ R, 0 < sm c.length fun k => b.getD k 0) ∧ (∀ r, r < c.length → un c.length r ∈ R) ∧
  (∀ r, r < c.length → ((R.erase (un c.length r)).map (ctn c r)).Perm (R.erase (un c.length r))) ∧ (∀ r, r < c.length → cE c r r = 2)

instance (c R : List (List Int)) : Decidable (RtP c R) := by unfold RtP; infer_instance

def GdP (n : Nat) (c : List (List Int)) : Prop :=
  (c.length = n ∧ 1 ≤ n ∧ n ≤ 4 ∧ (∀ r ∈ c, r.length = n)) ∧ (∀ i, i < n → ∀ j, j < n → -3 ≤ cE c i j ∧ cE c i j ≤ 3) ∧
  (∀ i, i < n → cE c i i = 2) ∧ (∀ i, i < n → ∀ j, j < n → i ≠ j → (-3 ≤ cE c i j ∧ cE c i j ≤ 0) ∧ (cE c i j = 0 ↔ cE c j i = 0)) ∧
  (abL c).length ≤ 24 ∧ (∀ b ∈ abL c, b.length = n ∧ ∀ x ∈ b, -1000 ≤ x ∧ x ≤ 1000) ∧ RtP c (posR c) ∧ (posR c).length ≤ 24 ∧ qS n (posR c) (ones n) ≤ 1000

instance (n : Nat) (c : List (List Int)) : Decidable (GdP n c) := by unfold GdP; infer_instance

theorem getD_bd {b : List Int} {M : Int} (hM : 0 ≤ M) (h : ∀ x ∈ b, -M ≤ x ∧ x ≤ M) (k : Nat) : -M ≤ b.getD k 0 ∧ b.getD k 0 ≤ M := by
  by_cases hk : k < b.length
  · have := h (b.getD k 0) (by simp [hk])
    exact this
  · have : b.getD k 0 = 0 := by rw [List.getD_eq_getElem?_getD, List.getElem?_eq_none (by omega)]; rfl
    omega

/-- Two squares, one behind the other. -/
def bdg (A B : List (List Int)) : List (List Int) := A.map (· ++ List.replicate B.length 0) ++ B.map (List.replicate A.length 0 ++ ·)

def mkL (ps : List (UInt8 × UInt8)) : List (List Int) := ps.foldl (fun A p => bdg A (pcL p)) []

def pmM (o : List Int) (c : List (List Int)) : List (List Int) := (List.range c.length).map fun i => (List.range c.length).map fun k => cE c (o.getD i 0).toNat (o.getD k 0).toNat

end Go.Proofs.Ytkpdgpdicafeiaa
