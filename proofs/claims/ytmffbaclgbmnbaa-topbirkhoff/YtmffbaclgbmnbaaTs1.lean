/- tropic: what may be, terms, the least of a list, where it is. -/
import Derived.Test.YtmffbaclgbmnbaaReads
import Derived.Test.YtmffbaclgbmnbaaCycAll
import Derived.Test.YtmffbaclgbmnbaaRefs2
import Derived.Test.YtmffbaclgbmnbaaRun1
import Derived.Deep.OwnRows
namespace Go.Proofs.Ytmffbaclgbmnbaa
open Go.RowKit
attribute [local go_sem ↓] Go.wp_at_zero Go.wp_at_succ

def listTE (l : List Int) : Int := if l.length < 1 ∨ 20 < l.length then 2 else if l.any (farB · 10000) then 4 else 0

/-- A list that may be. -/
structure Lst (l : List Int) : Prop where
  n1 : 1 ≤ l.length
  n20 : l.length ≤ 20
  bd : ∀ z ∈ l, -10000 ≤ z ∧ z ≤ 10000

theorem list_okT {l : List Int} (h : listTE l = 0) : Lst l := by
  unfold listTE at h
  by_cases h0 : l.length < 1 ∨ 20 < l.length
  · rw [if_pos h0] at h; simp at h
  · rw [if_neg h0] at h
    cases h2 : l.any (farB · 10000)
    · refine ⟨by omega, by omega, fun z hz => ?_⟩
      have := List.any_eq_false.1 h2 z hz
      simp only [farB, Bool.or_eq_true, decide_eq_true_eq, not_or] at this
      omega
    · rw [h2] at h; simp at h

theorem Lst.at {l : List Int} (h : Lst l) (j : Nat) : -10000 ≤ l.getD j 0 ∧ l.getD j 0 ≤ 10000 := by
  by_cases hj : j < l.length
  · have e : l.getD j 0 = l[j] := by simp [hj]
    rw [e]
    exact h.bd _ (List.getElem_mem _)
  · simp [hj]

/-- All terms at a by b. -/
def tmL (l : List Int) (a b : Int) : List Int := (List.range l.length).map fun j => l.getD j 0 * b + (j : Int) * a

theorem tmL_len (l : List Int) (a b : Int) : (tmL l a b).length = l.length := by simp [tmL]
theorem tmL_at {l : List Int} {a b : Int} {j : Nat} (h : j < l.length) : (tmL l a b).getD j 0 = l.getD j 0 * b + (j : Int) * a := by
  rw [List.getD_eq_getElem?_getD]
  simp [tmL, h]

theorem tm_bd {x b a : Int} {j : Nat} (hx : -10000 ≤ x ∧ x ≤ 10000) (hb : -20 ≤ b ∧ b ≤ 20) (ha : -20000 ≤ a ∧ a ≤ 20000) (hj : j ≤ 20) : (-200000 ≤ x * b ∧ x * b ≤ 200000) ∧ (-400000 ≤ (j : Int) * a ∧ (j : Int) * a ≤ 400000) := by
  have h1 : (x * b).natAbs ≤ 10000 * 20 := by rw [Int.natAbs_mul]; exact Nat.mul_le_mul (by omega) (by omega)
  have h2 : ((j : Int) * a).natAbs ≤ 20 * 20000 := by rw [Int.natAbs_mul]; exact Nat.mul_le_mul (by omega) (by omega)
  omega

/-- The least of the first k + 1. -/
def minTo (zs : List Int) : Nat → Int
  | 0 => zs.getD 0 0
  | k + 1 => if zs.getD (k + 1) 0 < minTo zs k then zs.getD (k + 1) 0 else minTo zs k

def minL (zs : List Int) : Int := minTo zs (zs.length - 1)

theorem minTo_le (zs : List Int) : ∀ k j, j ≤ k → minTo zs k ≤ zs.getD j 0
  | 0, j, h => by rw [show j = 0 by omega]; exact Int.le_refl _
  | k + 1, j, h => by
    simp only [minTo]
    by_cases e : j = k + 1
    · subst e; split <;> omega
    · have := minTo_le zs k j (by omega)
      split <;> omega

theorem minTo_mem (zs : List Int) : ∀ k, ∃ j, j ≤ k ∧ zs.getD j 0 = minTo zs k
  | 0 => ⟨0, Nat.le_refl _, rfl⟩
  | k + 1 => by
    simp only [minTo]
    split
    · exact ⟨k + 1, Nat.le_refl _, rfl⟩
    · obtain ⟨j, h1, h2⟩ := minTo_mem zs k
      exact ⟨j, by omega, h2⟩

theorem minL_le {zs : List Int} {j : Nat} (h : j < zs.length) : minL zs ≤ zs.getD j 0 := minTo_le zs _ j (by omega)
theorem minL_mem {zs : List Int} (h : 0 < zs.length) : ∃ j, j < zs.length ∧ zs.getD j 0 = minL zs := by
  obtain ⟨j, h1, h2⟩ := minTo_mem zs (zs.length - 1)
  exact ⟨j, by omega, h2⟩

set_option maxRecDepth 100000 in
set_option maxHeartbeats 400000 in
theorem minT_any (B : Nat) (zs : List Int) (v : Value) (w : World) (hv : Sl B 3 w v (ints zs)) (hp : 0 < zs.length) :
    Calls Try.prog 23 #[v] w fun e w' => e = .returned (.int .i64 (minL zs)) ∧ w' = w := by
  obtain ⟨ao, cap, hvv, hlc, hcm⟩ := sl_open hv
  subst hvv
  have HV : Hid (Sl B 3 w (.slice ao zs.length cap) (ints zs)) := hv
  obtain ⟨b0, o0, c0, hs0, _, hcc0⟩ := sl_cell hv hp
  simp only [Value.slice.injEq] at hs0
  obtain ⟨rfl, _, rfl⟩ := hs0
  have HM0 : Hid (zs.getD 0 0 = minTo zs 0) := rfl
  rw [HM0.out, Nat.add_zero] at hcc0
  have hp0 : (0 : Int) < (zs.length : Int) := by omega
  have b1 : decide ((zs.length : Int) < 1) = false := decide_eq_false (by omega)
  clear hv
  go_enter Try.func23, Try.ntmps23
  go_wp2
  go_loopw [3, 4] (fun m i wr => ∃ k : Nat, k + 1 ≤ zs.length ∧ i = .int .i64 ((k : Int) + 1) ∧ m = .int .i64 (minTo zs k) ∧ wr = w) (fun _ i _ => zs.length - (intOf i).toNat)
  case atStart => exact ⟨0, hp, rfl, rfl, rfl⟩
  case round =>
    obtain ⟨k, hk, rfl, rfl, rfl⟩ := hrel
    by_cases hlt : k + 1 < zs.length
    · obtain ⟨b1, o1, c1, hs1, _, hcc1⟩ := sl_cell HV.out (k := k + 1) hlt
      simp only [Value.slice.injEq, Option.some.injEq, Addr.mk.injEq] at hs1
      obtain ⟨⟨rfl, rfl, _⟩, _, rfl⟩ := hs1
      have HS : Hid (minTo zs (k + 1) = if zs.getD (k + 1) 0 < minTo zs k then zs.getD (k + 1) 0 else minTo zs k) := rfl
      generalize zs.getD (k + 1) 0 = x at *
      generalize minTo zs k = m at *
      go_wp2
      go_roundw
      case rel => exact ⟨k + 1, by omega, by go_num, by rw [HS.out], trivial⟩
      case measure => simp [intOf]; omega
    · have HE : Hid (minTo zs k = minL zs) := by
        show _ = _
        unfold minL
        rw [show zs.length - 1 = k by omega]
      rw [HE.out]
      have hkf : decide ((k : Int) + 1 < (zs.length : Int)) = false := by simp; omega
      go_wp2
      go_ret
      exact ⟨rfl, rfl⟩

end Go.Proofs.Ytmffbaclgbmnbaa
