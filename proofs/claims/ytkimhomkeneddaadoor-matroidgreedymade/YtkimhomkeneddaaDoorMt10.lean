/- Things by falling weights: the comparison, and the sort by insertion. -/
import Derived.Test.YtkimhomkeneddaaDoorMt8
import Derived.Test.YtkimhomkeneddaaDoorOrd1
namespace Go.Proofs.YtkimhomkeneddaaDoor
open Go.RowKit
attribute [local go_sem ↓] Go.wp_at_zero Go.wp_at_succ

set_option maxRecDepth 100000 in
set_option maxHeartbeats 400000 in
theorem heavy1_any (B : Nat) (ws : List Int) (a b : Nat) (v : Value) (p : Addr) (w : World) (hv : Sl B 3 w v (ints ws)) (ha : a < ws.length) (hb : b < ws.length) (hc : w.cell? p = some v) :
    Calls Tryd.prog 34 #[.int .i64 a, .int .i64 b, .pointer (some p)] w fun e w' => e = .returned (.int .i64 (cmpI (ws.getD b 0) (ws.getD a 0))) ∧ ∃ n, w' = w.drewN n := by
  obtain ⟨ao, cap, hvv, hlc, hcm⟩ := sl_open hv
  subst hvv
  obtain ⟨cb, co, cc, hs, _, h1⟩ := sl_cell hv ha
  simp only [Value.slice.injEq] at hs
  obtain ⟨rfl, -, rfl⟩ := hs
  obtain ⟨cb', co', cc', hs, _, h2⟩ := sl_cell hv hb
  simp only [Value.slice.injEq, Option.some.injEq, Addr.mk.injEq, and_true, true_and] at hs
  obtain ⟨⟨rfl, rfl⟩, rfl⟩ := hs
  have HC : Hid (∀ q, Calls Tryd.prog 35 #[.int .i64 (ws.getD b 0), .int .i64 (ws.getD a 0)] (w.drewN q) fun e w' => e = .returned (.int .i64 (cmpI (ws.getD b 0) (ws.getD a 0))) ∧ w' = w.drewN q) := fun q => cmpI_any _ _ _
  have aI : (a : Int) < (ws.length : Int) := by omega
  have aI0 : (0 : Int) ≤ (a : Int) := by omega
  have bI : (b : Int) < (ws.length : Int) := by omega
  have bI0 : (0 : Int) ≤ (b : Int) := by omega
  clear hv
  generalize cmpI (ws.getD b 0) (ws.getD a 0) = z at *
  generalize ws.getD b 0 = X at *
  generalize ws.getD a 0 = Y at *
  go_enter Tryd.func34, Tryd.ntmps34
  go_wp2_with fail
  go_big_quiet ((go_at_call 35; exact Calls.quiet_of_same (w := w) (HC.out _)))
  go_wp2
  go_ret
  exact ⟨rfl, nq, rfl⟩

/-- Two neighbours changed about. -/
def swL (zs : List Int) (j : Nat) : List Int := (zs.set (j + 1) (zs.getD j 0)).set j (zs.getD (j + 1) 0)

/-- Whether the thing in place j + 1 is heavier than the one ahead of it. -/
def upB (ws zs : List Int) (j : Nat) : Bool := decide (cmpI (ws.getD (zs.getD j 0).toNat 0) (ws.getD (zs.getD (j + 1) 0).toNat 0) < 0)

/-- The thing in place j goes ahead of all lighter ones. -/
def insJ (ws : List Int) : Nat → List Int → List Int
  | 0, zs => zs
  | j + 1, zs => if upB ws zs j = true then insJ ws j (swL zs j) else zs

/-- From place i on. -/
def insO (ws : List Int) : Nat → Nat → List Int → List Int
  | 0, _, zs => zs
  | m + 1, i, zs => insO ws m (i + 1) (insJ ws i zs)

theorem swL_len (zs : List Int) (j : Nat) : (swL zs j).length = zs.length := by simp [swL]

/-- All are places of the weights. -/
def Pl (n : Nat) (zs : List Int) : Prop := ∀ k, k < zs.length → 0 ≤ zs.getD k 0 ∧ zs.getD k 0 < n

theorem Pl.sw {n : Nat} {zs : List Int} {j : Nat} (h : Pl n zs) (hj : j + 1 < zs.length) : Pl n (swL zs j) := by
  intro k hk
  rw [swL_len] at hk
  have h1 := h j (by omega)
  have h2 := h (j + 1) hj
  have h3 := h k hk
  unfold swL
  by_cases e : j = k
  · subst e
    rw [List.getD_eq_getElem?_getD, List.getElem?_set_self (by simp; omega), Option.getD_some]
    exact h2
  · rw [List.getD_eq_getElem?_getD, List.getElem?_set_ne e]
    by_cases e2 : j + 1 = k
    · subst e2
      rw [List.getElem?_set_self (by omega), Option.getD_some]
      exact h1
    · rw [List.getElem?_set_ne e2, ← List.getD_eq_getElem?_getD]
      exact h3

end Go.Proofs.YtkimhomkeneddaaDoor
