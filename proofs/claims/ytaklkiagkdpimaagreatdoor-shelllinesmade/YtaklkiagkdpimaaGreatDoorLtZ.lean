import Derived.Test.YtaklkiagkdpimaaGreatDoorShY
import Derived.Test.YtaklkiagkdpimaaGreatDoorHmZ
import Derived.Test.YtaklkiagkdpimaaGreatDoorHmW
import Derived.Test.YtaklkiagkdpimaaGreatDoorBetY
/- What sides have in common, again and again: the list that holds all of it. -/
namespace Go.Proofs.YtaklkiagkdpimaaGreatDoor
open Go.RowKit

def natI (A : List Nat) : List Int := A.map fun a : Nat => (a : Int)

@[simp] theorem natI_len (A : List Nat) : (natI A).length = A.length := by simp [natI]

/-- What comes of all by taking what it has in common with sides. -/
inductive Itr (n : Nat) (S : List Nat) : Nat → Prop
  | full : Itr n S (2 ^ n - 1)
  | cut {a t : Nat} : Itr n S a → t ∈ S → Itr n S (a &&& t)

end Go.Proofs.YtaklkiagkdpimaaGreatDoor

/- The document's answer: all faces: the walk. -/
namespace Go.Proofs.YtaklkiagkdpimaaGreatDoor
open Go.RowKit
attribute [local go_sem ↓] Go.wp_at_zero Go.wp_at_succ

theorem pow16 {n : Nat} (h : n ≤ 16) : 2 ^ n ≤ 65536 := Nat.le_trans (Nat.pow_le_pow_right (by decide) h) (by decide)

end Go.Proofs.YtaklkiagkdpimaaGreatDoor

/- Which simplices may be: one list, by the program. -/
namespace Go.Proofs.YtaklkiagkdpimaaGreatDoor
open Go.RowKit
attribute [local go_sem ↓] Go.wp_at_zero Go.wp_at_succ

end Go.Proofs.YtaklkiagkdpimaaGreatDoor

/- Which simplices may be: the document's answer. -/
namespace Go.Proofs.YtaklkiagkdpimaaGreatDoor
open Go.RowKit
attribute [local go_sem ↓] Go.wp_at_zero Go.wp_at_succ

end Go.Proofs.YtaklkiagkdpimaaGreatDoor

/- Which simplices may be: the program's answer. -/
namespace Go.Proofs.YtaklkiagkdpimaaGreatDoor
open Go.RowKit
attribute [local go_sem ↓] Go.wp_at_zero Go.wp_at_succ

end Go.Proofs.YtaklkiagkdpimaaGreatDoor

/- The sides of a simplex that are met: the program. -/
namespace Go.Proofs.YtaklkiagkdpimaaGreatDoor
open Go.RowKit
attribute [local go_sem ↓] Go.wp_at_zero Go.wp_at_succ

/-- Sets, as values. -/
def nats (ns : List Nat) : List Value := ns.map fun (n : Nat) => Value.int .u64 (n : Int)

@[simp] theorem nats_length (ns : List Nat) : (nats ns).length = ns.length := by simp [nats]

end Go.Proofs.YtaklkiagkdpimaaGreatDoor

/- The sides of a simplex that are met: the program, its two functions. -/
namespace Go.Proofs.YtaklkiagkdpimaaGreatDoor
open Go.RowKit
attribute [local go_sem ↓] Go.wp_at_zero Go.wp_at_succ

theorem one_u64 (z : Int) : ∀ u ∈ [Value.int .u64 z], u.oneCell' = true := by
  intro u hu; simp at hu; subst hu; rfl

end Go.Proofs.YtaklkiagkdpimaaGreatDoor

/- Simplices that may be: what is known of them; sets for lists. -/
namespace Go.Proofs.YtaklkiagkdpimaaGreatDoor
open Go.RowKit

end Go.Proofs.YtaklkiagkdpimaaGreatDoor

/- Simplices one behind the other: the program. -/
namespace Go.Proofs.YtaklkiagkdpimaaGreatDoor
open Go.RowKit
attribute [local go_sem ↓] Go.wp_at_zero Go.wp_at_succ

end Go.Proofs.YtaklkiagkdpimaaGreatDoor

/- Simplices one behind the other: the document's answer. -/
namespace Go.Proofs.YtaklkiagkdpimaaGreatDoor
open Go.RowKit
attribute [local go_sem ↓] Go.wp_at_zero Go.wp_at_succ

end Go.Proofs.YtaklkiagkdpimaaGreatDoor

/- The law of shells. -/
namespace Go.Proofs.YtaklkiagkdpimaaGreatDoor
open Go.RowKit
attribute [local go_sem ↓] Go.wp_at_zero Go.wp_at_succ

end Go.Proofs.YtaklkiagkdpimaaGreatDoor

/- A polytope has a side; the law ShellMade: the walk. -/
namespace Go.Proofs.YtaklkiagkdpimaaGreatDoor
open Lin

/-- A row meets one of the points that it comes of. -/
theorem row_meets {d : Nat} {C : List (List Int)} (hg : Good d C) {r : List Int} (hr : r ∈ rowsC C [] d C) : ∃ y ∈ C, r.getD d 0 = dot d (V r) (V y) := by
  obtain ⟨t, hts, htl, hrt⟩ := mem_rowsC.1 hr
  obtain ⟨σ, hσ, hnb, hre⟩ := rowT_form htl hrt
  have hal := norm_len hnb
  have hd1 := hg.d1
  have hVr : ∀ i, i < d → V r i = σ * V (normL d (diffL t)) i := fun i hi => by
    rw [hre]
    have h := V_map (normL d (diffL t) ++ [dotL (normL d (diffL t)) (t.getD 0 [])]) σ i
    rw [h, (row_app hal).2.2.2 i hi]
  have hlast : r.getD d 0 = σ * dotL (normL d (diffL t)) (t.getD 0 []) := by
    rw [hre]
    have h := V_map (normL d (diffL t) ++ [dotL (normL d (diffL t)) (t.getD 0 [])]) σ d
    simp only [V] at h
    rw [h, (row_app hal).2.2.1]
  refine ⟨t.getD 0 [], hts.subset (by simp [show 0 < t.length by omega]), ?_⟩
  rw [hlast, dotL_eq hal]
  unfold dot
  rw [← sumN_mul]
  exact (sumN_congr fun i hi => by rw [hVr i hi, Int.mul_assoc]).symm

theorem mem_side {C : List (List Int)} {r : List Int} (hC : C.length ≤ 16) {y : List Int} : y ∈ pks C [] (memL (sdN C r)) ↔ y ∈ C ∧ overL r y = 0 := by
  have hlt : sdN C r < 2 ^ 64 := Nat.lt_of_lt_of_le (sdTo_lt C r C.length) (Nat.pow_le_pow_right (by decide) (by omega))
  unfold pks
  simp only [List.mem_map]
  constructor
  · rintro ⟨x, hx, rfl⟩
    obtain ⟨k, rfl, hk⟩ := (mem_memL hlt).1 hx
    unfold sdN at hk
    rw [sdTo_bit] at hk
    simp only [Bool.and_eq_true, decide_eq_true_eq] at hk
    rw [show ((k : Int)).toNat = k by omega]
    exact ⟨by simp [hk.1], hk.2⟩
  · rintro ⟨hy, ho⟩
    obtain ⟨k, hk, rfl⟩ := List.mem_iff_getElem.1 hy
    have e : C.getD k [] = C[k] := by simp [hk]
    refine ⟨(k : Int), (mem_memL hlt).2 ⟨k, rfl, ?_⟩, by rw [show ((k : Int)).toNat = k by omega]; exact e⟩
    unfold sdN
    rw [sdTo_bit, e]
    simp [hk, ho]

open Go.RowKit
attribute [local go_sem ↓] Go.wp_at_zero Go.wp_at_succ

end Go.Proofs.YtaklkiagkdpimaaGreatDoor
