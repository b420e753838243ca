/- What may be: the program's check, and the document's. -/
import Derived.Test.YthbjdgpkcekafaaRun12
import Derived.Test.YthbjdgpkcekafaaCycAll
import Derived.Test.YthbjdgpkcekafaaWi1
namespace Go.Proofs.Ythbjdgpkcekafaa
open Go.RowKit
attribute [local go_sem ↓] Go.wp_at_zero Go.wp_at_succ

def rowE (c : Nat) (r : List Int) : Int := if r.length ≠ c ∨ c < 1 ∨ 5 < c then 3 else if r.any (farB · 60) then 4 else 0

def rowsE (c : Nat) : List (List Int) → Int
  | [] => 0
  | r :: rs => if rowE c r = 0 then rowsE c rs else rowE c r

def vecE (m : List (List Int)) : Int := if m.length < 1 ∨ 24 < m.length then 2 else rowsE (m.getD 0 []).length m

theorem rowE_cases (c : Nat) (r : List Int) : rowE c r = 0 ∨ rowE c r = 3 ∨ rowE c r = 4 := by
  unfold rowE; split
  · simp
  · split <;> simp

theorem rowsE_hit {c : Nat} : ∀ {m : List (List Int)} {k : Nat}, k < m.length → (∀ i, i < k → rowE c (m.getD i []) = 0) → rowE c (m.getD k []) ≠ 0 → rowsE c m = rowE c (m.getD k [])
  | r :: rs, 0, _, _, h => by
    simp only [List.getD_cons_zero] at h
    simp [rowsE, h]
  | r :: rs, k + 1, hk, h0, h => by
    have h1 := h0 0 (by omega)
    simp only [List.getD_cons_zero] at h1
    simp only [List.getD_cons_succ] at h
    simp only [rowsE, h1, if_true, List.getD_cons_succ]
    exact rowsE_hit (by simpa using hk) (fun i hi => by have := h0 (i + 1) (by omega); simpa using this) h

theorem rowsE_all {c : Nat} : ∀ {m : List (List Int)}, (∀ i, i < m.length → rowE c (m.getD i []) = 0) → rowsE c m = 0
  | [], _ => rfl
  | r :: rs, h => by
    have h1 := h 0 (by simp)
    simp only [List.getD_cons_zero] at h1
    simp only [rowsE, h1, if_true]
    exact rowsE_all fun i hi => by have := h (i + 1) (by simpa using hi); simpa using this

theorem rowsE_zero {c : Nat} : ∀ {m : List (List Int)}, rowsE c m = 0 → ∀ r ∈ m, rowE c r = 0
  | [], _, _, hr => by simp at hr
  | r :: rs, h, x, hx => by
    simp only [rowsE] at h
    by_cases h1 : rowE c r = 0
    · rw [if_pos h1] at h
      rcases List.mem_cons.1 hx with rfl | hx
      · exact h1
      · exact rowsE_zero h x hx
    · rw [if_neg h1] at h; exact absurd h h1

theorem vec_ok {m : List (List Int)} (h : vecE m = 0) : 1 ≤ m.length ∧ m.length ≤ 24 ∧ Mx (m.getD 0 []).length 60 m := by
  unfold vecE at h
  by_cases h0 : m.length < 1 ∨ 24 < m.length
  · rw [if_pos h0] at h; simp at h
  · rw [if_neg h0] at h
    have hz := rowsE_zero h
    have hf : ∀ r ∈ m, ¬ (r.length ≠ (m.getD 0 []).length ∨ (m.getD 0 []).length < 1 ∨ 5 < (m.getD 0 []).length) ∧ r.any (farB · 60) = false := by
      intro r hr
      have := hz r hr
      unfold rowE at this
      by_cases h1 : r.length ≠ (m.getD 0 []).length ∨ (m.getD 0 []).length < 1 ∨ 5 < (m.getD 0 []).length
      · rw [if_pos h1] at this; simp at this
      · rw [if_neg h1] at this
        refine ⟨h1, ?_⟩
        cases h2 : r.any (farB · 60)
        · rfl
        · rw [h2] at this; simp at this
    have hm0 : m.getD 0 [] ∈ m := by
      rw [List.getD_eq_getElem?_getD, List.getElem?_eq_getElem (by omega)]; exact List.getElem_mem _
    have h1 := (hf _ hm0).1
    refine ⟨by omega, by omega, fun r hr => ?_, fun r hr z hz => ?_, by omega, by omega, by decide, Nat.le_trans (fb_mono (by decide) (show _ ≤ 5 by omega)) (by decide)⟩
    · have := (hf r hr).1; omega
    · have := List.any_eq_false.1 (hf r hr).2 z hz
      simp only [farB, Bool.or_eq_true, decide_eq_true_eq, not_or] at this
      omega

set_option maxRecDepth 100000 in
set_option maxHeartbeats 800000 in
theorem checkRow_any (B c : Nat) (r : List Int) (v : Value) (w : World) (hv : Sl B 3 w v (ints r)) (hc : c ≤ 9223372036854775807) :
    Calls Try.prog 25 #[v, .int .i64 c] w fun e w' => e = .returned (.int .i64 (rowE c r)) ∧ Below w.heap.size w w' := by
  obtain ⟨ao, cap, hvv, hlc, hcm⟩ := sl_open hv
  subst hvv
  have HC : Hid (Calls Try.prog 39 #[.slice ao r.length cap, .int .i64 c, .int .i64 60] w fun e w' => e = .returned (.int .i64 (if r.length ≠ c then 3 else if r.any (farB · 60) then 4 else 0)) ∧ Below w.heap.size w w') := chkL_any B c 60 r _ w hv (by decide) (by decide)
  clear hv
  by_cases h1 : c < 1
  · have b1 : decide ((c : Int) < 1) = true := decide_eq_true (by omega)
    have HE : Hid (rowE c r = 3) := if_pos (by omega)
    go_enter Try.func25, Try.ntmps25
    go_wp2
    go_ret
    exact ⟨by rw [HE.out]; rfl, Below.refl _ _⟩
  · have b1 : decide ((c : Int) < 1) = false := decide_eq_false (by omega)
    by_cases h2 : 5 < c
    · have b2 : decide ((5 : Int) < (c : Int)) = true := decide_eq_true (by omega)
      have HE : Hid (rowE c r = 3) := if_pos (by omega)
      go_enter Try.func25, Try.ntmps25
      go_wp2
      go_ret
      exact ⟨by rw [HE.out]; rfl, Below.refl _ _⟩
    · have b2 : decide ((5 : Int) < (c : Int)) = false := decide_eq_false (by omega)
      have HE : Hid ((if r.length ≠ c then (3 : Int) else if r.any (farB · 60) then 4 else 0) = rowE c r) := by
        show _ = _
        unfold rowE
        by_cases hl : r.length = c
        · rw [if_neg (show ¬ r.length ≠ c by omega), if_neg (show ¬ (r.length ≠ c ∨ c < 1 ∨ 5 < c) by omega)]
        · rw [if_pos hl, if_pos (show r.length ≠ c ∨ c < 1 ∨ 5 < c by omega)]
      rw [HE.out] at HC
      go_enter Try.func25, Try.ntmps25
      go_wp2_with fail
      refine HC.out.mono ?_
      rintro e w' ⟨rfl, hb⟩
      have HB : Hid (Below w.heap.size w w') := hb
      clear hb
      go_wp2
      go_ret
      exact ⟨rfl, HB.out⟩

end Go.Proofs.Ythbjdgpkcekafaa
