/- Squares that may be, by the program and by the document; what a list holds, and its sum. -/
import Derived.Test.YtiadekblckngiaaReads
import Derived.Test.YtiadekblckngiaaCycAll
import Derived.Test.YtiadekblckngiaaRefs2
import Derived.Test.YtiadekblckngiaaTp1
import Derived.Test.YtiadekblckngiaaWi1
namespace Go.Proofs.Ytiadekblckngiaa
open Go.RowKit
attribute [local go_sem ↓] Go.wp_at_zero Go.wp_at_succ

theorem anyT_contains (zs : List Int) (x : Int) : zs.any (fun z => z == x) = zs.contains x := by
  rw [Bool.eq_iff_iff]; simp

theorem anyT_snoc {α : Type} {p : α → Bool} {l : List α} {d : α} {k : Nat} (h : k < l.length) (h0 : (l.take k).any p = false) : (l.take (k + 1)).any p = p (l.getD k d) := by
  rw [List.take_succ_eq_append_getElem h, List.any_append, h0]; simp [h]

theorem anyT_get {α : Type} {p : α → Bool} {l : List α} {d : α} {k : Nat} (h : k < l.length) (h0 : p (l.getD k d) = true) : l.any p = true :=
  List.any_eq_true.2 ⟨l.getD k d, by simp [h], h0⟩

set_option maxRecDepth 100000 in
set_option maxHeartbeats 400000 in
theorem inT_any (B : Nat) (x : Int) (zs : List Int) (v : Value) (w : World) (hv : Sl B 3 w v (ints zs)) :
    Calls Try.prog 29 #[.int .i64 x, v] w fun e w' => e = .returned (.bool (zs.contains x)) ∧ w' = w := by
  obtain ⟨ao, cap, hvv, hlc, hcm⟩ := sl_open hv
  subst hvv
  have HV : Hid (Sl B 3 w (.slice ao zs.length cap) (ints zs)) := hv
  clear hv
  rw [← anyT_contains]
  go_enter Try.func29, Try.ntmps29
  go_wp2
  go_loopw [5] (fun i wr => ∃ k : Nat, k ≤ zs.length ∧ i = .int .i64 k ∧ (zs.take k).any (fun z => z == x) = false ∧ wr = w) (fun i _ => zs.length - (intOf i).toNat)
  case atStart => exact ⟨0, Nat.zero_le _, rfl, by simp, rfl⟩
  case round =>
    obtain ⟨k, hk, rfl, hno, rfl⟩ := hrel
    have HN : Hid ((zs.take k).any (fun z => z == x) = false) := hno
    clear hno
    by_cases hlt : k < zs.length
    · obtain ⟨b, o, cp, hs, hc1, hcc⟩ := sl_cell HV.out hlt
      simp only [Value.slice.injEq] at hs
      obtain ⟨rfl, _, rfl⟩ := hs
      have HS1 : Hid ((zs.take (k + 1)).any (fun z => z == x) = (zs.getD k 0 == x)) := anyT_snoc (p := fun z => z == x) hlt HN.out
      have HG : Hid ((zs.getD k 0 == x) = true → zs.any (fun z => z == x) = true) := fun h => anyT_get (p := fun z => z == x) hlt h
      generalize zs.getD k 0 = z at *
      cases hf : (z == x)
      · have HF : Hid ((z == x) = false) := hf
        go_wp2
        go_roundw
        case rel => exact ⟨k + 1, by omega, by go_num, by rw [HS1.out]; exact HF.out, trivial⟩
        case measure => simp [intOf]; omega
      · have HF : Hid ((z == x) = true) := hf
        go_wp2
        go_ret
        exact ⟨ret_bool (HG.out HF.out).symm, rfl⟩
    · have hke : zs.take k = zs := List.take_of_length_le (by omega)
      have HE : Hid (zs.any (fun z => z == x) = false) := by rw [← hke]; exact HN.out
      go_wp2
      go_ret
      exact ⟨ret_bool HE.out.symm, rfl⟩


def rowQ (c : Nat) (r : List Int) : Int := if r.length ≠ c then 3 else if r.any (farB · 10000) then 4 else 0

def rowsSq (c : Nat) : List (List Int) → Int
  | [] => 0
  | r :: rs => if rowQ c r = 0 then rowsSq c rs else rowQ c r

def sqE (m : List (List Int)) : Int := if m.length < 1 ∨ 6 < m.length then 2 else rowsSq m.length m

theorem rowsSq_hit {c : Nat} : ∀ {m : List (List Int)} {k : Nat}, k < m.length → (∀ i, i < k → rowQ c (m.getD i []) = 0) → rowQ c (m.getD k []) ≠ 0 → rowsSq c m = rowQ c (m.getD k [])
  | r :: rs, 0, _, _, h => by
    simp only [List.getD_cons_zero] at h
    simp [rowsSq, h]
  | r :: rs, k + 1, hk, h0, h => by
    have h1 := h0 0 (by omega)
    simp only [List.getD_cons_zero] at h1
    simp only [List.getD_cons_succ] at h
    simp only [rowsSq, h1, if_true, List.getD_cons_succ]
    exact rowsSq_hit (by simpa using hk) (fun i hi => by have := h0 (i + 1) (by omega); simpa using this) h

theorem rowsSq_all {c : Nat} : ∀ {m : List (List Int)}, (∀ i, i < m.length → rowQ c (m.getD i []) = 0) → rowsSq c m = 0
  | [], _ => rfl
  | r :: rs, h => by
    have h1 := h 0 (by simp)
    simp only [List.getD_cons_zero] at h1
    simp only [rowsSq, h1, if_true]
    exact rowsSq_all fun i hi => by have := h (i + 1) (by simpa using hi); simpa using this

theorem rowsSq_zero {c : Nat} : ∀ {m : List (List Int)}, rowsSq c m = 0 → ∀ r ∈ m, rowQ c r = 0
  | [], _, _, hr => by simp at hr
  | r :: rs, h, x, hx => by
    simp only [rowsSq] at h
    by_cases h1 : rowQ c r = 0
    · rw [if_pos h1] at h
      rcases List.mem_cons.1 hx with rfl | hx
      · exact h1
      · exact rowsSq_zero h x hx
    · rw [if_neg h1] at h; exact absurd h h1

/-- A square that may be. -/
structure Sqr (m : List (List Int)) : Prop where
  n1 : 1 ≤ m.length
  n6 : m.length ≤ 6
  len : ∀ r ∈ m, r.length = m.length
  bd : ∀ r ∈ m, ∀ z ∈ r, -10000 ≤ z ∧ z ≤ 10000

theorem sq_ok {m : List (List Int)} (h : sqE m = 0) : Sqr m := by
  unfold sqE at h
  by_cases h0 : m.length < 1 ∨ 6 < m.length
  · rw [if_pos h0] at h; simp at h
  · rw [if_neg h0] at h
    have hz := rowsSq_zero h
    have hf : ∀ r ∈ m, r.length = m.length ∧ r.any (farB · 10000) = false := by
      intro r hr
      have := hz r hr
      unfold rowQ at this
      by_cases h1 : r.length ≠ m.length
      · rw [if_pos h1] at this; simp at this
      · rw [if_neg h1] at this
        refine ⟨by omega, ?_⟩
        cases h2 : r.any (farB · 10000)
        · rfl
        · rw [h2] at this; simp at this
    refine ⟨by omega, by omega, fun r hr => (hf r hr).1, fun r hr z hz => ?_⟩
    have := List.any_eq_false.1 (hf r hr).2 z hz
    simp only [farB, Bool.or_eq_true, decide_eq_true_eq, not_or] at this
    omega

theorem Sqr.ent {m : List (List Int)} (h : Sqr m) {i j : Nat} : -10000 ≤ ent m i j ∧ ent m i j ≤ 10000 := by
  unfold Go.Proofs.Ytiadekblckngiaa.ent
  by_cases hi : i < m.length
  · have e : m.getD i [] = m[i] := by simp [hi]
    rw [e]
    by_cases hj : j < m[i].length
    · have e2 : m[i].getD j 0 = m[i][j] := by simp [hj]
      rw [e2]
      exact h.bd _ (List.getElem_mem _) _ (List.getElem_mem _)
    · simp [hj]
  · simp [hi]

theorem sumL_snoc (l : List Int) (k : Nat) (h : k < l.length) : (l.take (k + 1)).sum = (l.take k).sum + l.getD k 0 := by
  have e : l.getD k 0 = l[k] := by simp [h]
  rw [List.take_succ_eq_append_getElem h, List.sum_append, e]; simp

theorem sumL_bd {l : List Int} {b : Nat} : ∀ k, k ≤ l.length → (∀ z ∈ l, z.natAbs ≤ b) → (l.take k).sum.natAbs ≤ b * k
  | 0, _, _ => by simp
  | k + 1, hk, hb => by
    have h1 := sumL_bd (l := l) k (by omega) hb
    rw [sumL_snoc l k (by omega)]
    have h2 : (l.getD k 0).natAbs ≤ b := by
      have e : l.getD k 0 = l[k] := by simp [show k < l.length by omega]
      rw [e]; exact hb _ (List.getElem_mem _)
    rw [Nat.mul_add, Nat.mul_one]
    omega

set_option maxRecDepth 100000 in
set_option maxHeartbeats 400000 in
theorem indexT_any (B : Nat) (x : Int) (zs : List Int) (v : Value) (w : World) (hv : Sl B 3 w v (ints zs)) :
    Calls Try.prog 40 #[v, .int .i64 x] w fun e w' => ∃ k : Int, e = .returned (.int .i64 k) ∧ decide (0 ≤ k) = zs.contains x ∧ w' = w := by
  obtain ⟨ao, cap, hvv, hlc, hcm⟩ := sl_open hv
  subst hvv
  have HV : Hid (Sl B 3 w (.slice ao zs.length cap) (ints zs)) := hv
  clear hv
  rw [← anyT_contains]
  go_enter Try.func40, Try.ntmps40
  go_wp2
  go_loopw [8, 5] (fun i _ wr => ∃ k : Nat, k ≤ zs.length ∧ i = .int .i64 k ∧ (zs.take k).any (fun z => z == x) = false ∧ wr = w) (fun i _ _ => zs.length - (intOf i).toNat)
  case atStart => exact ⟨0, Nat.zero_le _, rfl, by simp, rfl⟩
  case round =>
    obtain ⟨k, hk, rfl, hno, rfl⟩ := hrel
    have HN : Hid ((zs.take k).any (fun z => z == x) = false) := hno
    clear hno
    by_cases hlt : k < zs.length
    · obtain ⟨b, o, cp, hs, hc1, hcc⟩ := sl_cell HV.out hlt
      simp only [Value.slice.injEq] at hs
      obtain ⟨rfl, _, rfl⟩ := hs
      have HS1 : Hid ((zs.take (k + 1)).any (fun z => z == x) = (zs.getD k 0 == x)) := anyT_snoc (p := fun z => z == x) hlt HN.out
      have HG : Hid ((zs.getD k 0 == x) = true → zs.any (fun z => z == x) = true) := fun h => anyT_get (p := fun z => z == x) hlt h
      generalize zs.getD k 0 = z at *
      cases hf : (x == z)
      · have HF : Hid ((z == x) = false) := by rw [beq_eq_false_iff_ne] at hf ⊢; exact fun e => hf e.symm
        go_wp2
        go_roundw
        case rel => exact ⟨k + 1, by omega, by go_num, by rw [HS1.out]; exact HF.out, trivial⟩
        case measure => simp [intOf]; omega
      · have HF : Hid ((z == x) = true) := by rw [beq_iff_eq] at hf ⊢; exact hf.symm
        have HK : Hid (decide ((0 : Int) ≤ (k : Int)) = true) := decide_eq_true (by omega)
        go_wp2
        go_ret
        exact ⟨k, rfl, by rw [HK.out, HG.out HF.out], rfl⟩
    · have hke : zs.take k = zs := List.take_of_length_le (by omega)
      have HE : Hid (zs.any (fun z => z == x) = false) := by rw [← hke]; exact HN.out
      go_wp2
      go_ret
      exact ⟨-1, rfl, by rw [HE.out]; rfl, rfl⟩

set_option maxRecDepth 100000 in
theorem containsT_any (B : Nat) (x : Int) (zs : List Int) (v : Value) (w : World) (hv : Sl B 3 w v (ints zs)) :
    Calls Try.prog 34 #[v, .int .i64 x] w fun e w' => e = .returned (.bool (zs.contains x)) ∧ w' = w := by
  obtain ⟨ao, cap, hvv, hlc, hcm⟩ := sl_open hv
  subst hvv
  have HI : Hid (Calls Try.prog 40 #[.slice ao zs.length cap, .int .i64 x] w fun e w' => ∃ k : Int, e = .returned (.int .i64 k) ∧ decide (0 ≤ k) = zs.contains x ∧ w' = w) := indexT_any B x zs _ w hv
  clear hv
  generalize zs.contains x = c at *
  go_enter Try.func34, Try.ntmps34
  go_wp2_with fail
  refine HI.out.mono ?_
  rintro e w' ⟨k, rfl, hk, rfl⟩
  have HK : Hid (decide (0 ≤ k) = c) := hk
  clear hk
  go_wp2
  go_ret
  exact ⟨ret_bool HK.out, rfl⟩

end Go.Proofs.Ytiadekblckngiaa
