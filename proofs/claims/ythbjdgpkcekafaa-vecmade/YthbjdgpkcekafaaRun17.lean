/- The program's answers: rank, determinant, normal of any rows. -/
import Derived.Test.YthbjdgpkcekafaaRun16
namespace Go.Proofs.Ythbjdgpkcekafaa
open Go.RowKit
attribute [local go_sem ↓] Go.wp_at_zero Go.wp_at_succ

/-- The first row's length. -/
def wid (m : List (List Int)) : Nat := (m.getD 0 []).length

def rankA (m : List (List Int)) : Int := if vecE m = 0 then ((pickL (wid m) m).length : Nat) else 0
def detE (m : List (List Int)) : Int := if vecE m = 0 then (if m.length = wid m then 0 else 3) else vecE m
def detA (m : List (List Int)) : Int := if detE m = 0 then detL m else 0
def normE (m : List (List Int)) : Int := if vecE m = 0 then (if wid m < 2 then 1 else if normB (wid m) m then 0 else 5) else vecE m
def normA (m : List (List Int)) : List Int := if normE m = 0 then normL (wid m) m else []

/-- The first row, read. -/
theorem mat_first {B : Nat} {w : World} {ao : Option Addr} {cap : Nat} {m : List (List Int)} (h : Mat B 28 3 w (.slice ao m.length cap) m) (h1 : 1 ≤ m.length) :
    ∃ b o uo uc, ao = some ⟨b, o, none⟩ ∧ w.cell? ⟨b, o, none⟩ = some (.slice uo (wid m) uc) ∧ wid m ≤ uc ∧ uc ≤ 9223372036854775807 := by
  obtain ⟨b, o, cp, u, hs, _, hcc, hu⟩ := mat_cell h (k := 0) (by omega)
  simp only [Value.slice.injEq, true_and] at hs
  obtain ⟨uo, uc, hue, h2, h3⟩ := sl_open hu
  have e : Value.slice uo (wid m) uc = u := hue.symm
  exact ⟨b, o, uo, uc, hs.1, by rw [e]; exact hcc, h2, h3⟩

set_option maxRecDepth 100000 in
set_option maxHeartbeats 800000 in
theorem vecRank_any (B : Nat) (m : List (List Int)) (v : Value) (w : World) (hv : Mat B 28 3 w v m) :
    Calls Try.prog 7 #[v] w fun e w' => e = .returned (.tuple #[.int .i64 (rankA m), .int .i64 (vecE m)]) ∧ Below w.heap.size w w' := by
  obtain ⟨ao, cap, hvv, hlc, hcm⟩ := mat_open hv
  subst hvv
  have HV : Hid (Mat B 28 3 w (.slice ao m.length cap) m) := hv
  clear hv
  go_enter Try.func7, Try.ntmps7
  go_wp2_with fail
  refine (check_any B m _ w HV.out).mono ?_
  rintro e w1 ⟨rfl, hb1⟩
  have HB : Hid (Below w.heap.size w w1) := hb1
  have HV1 : Hid (Mat B 28 3 w1 (.slice ao m.length cap) m) := HV.out.below hb1 (Nat.le_refl _)
  clear hb1
  obtain ⟨x, hx⟩ : ∃ x, x = vecE m := ⟨_, rfl⟩
  have HX : Hid (x = vecE m) := hx
  rw [← hx]
  by_cases hx0 : x = 0
  · obtain ⟨hm1, hm24, hmx⟩ := vec_ok (m := m) (by rw [← hx]; exact hx0)
    have hxb : (x != 0) = false := by simp [hx0]
    have HR : Hid (rankA m = ((pickL (wid m) m).length : Nat)) := if_pos (by rw [← hx]; exact hx0)
    have HMX : Hid (Mx (wid m) 60 m) := hmx
    have HX0 : Hid (x = 0) := hx0
    obtain ⟨b, o, uo, uc, rfl, hcc, hul, hum⟩ := mat_first HV1.out hm1
    have hm0I : (0 : Int) < (m.length : Int) := by omega
    clear hx hx0 hmx
    generalize hwd : wid m = c at *
    go_wp2_with fail
    refine (rankP_any B c m _ w1 HMX.out HV1.out (by omega) hm1).mono ?_
    rintro e w2 ⟨rfl, hb2⟩
    have HB2 : Hid (Below w.heap.size w w2) := HB.out.trans (hb2.mono HB.out.size)
    clear hb2
    go_wp2
    go_ret2
    exact ⟨by rw [HR.out, ← HX.out, HX0.out]; rfl, HB2.out⟩
  · have hxb : (x != 0) = true := by simp [hx0]
    have HR : Hid (rankA m = 0) := if_neg (by rw [← hx]; exact hx0)
    clear hx hx0
    go_wp2
    go_ret2
    exact ⟨by rw [HR.out, ← HX.out]; rfl, HB.out⟩

set_option maxRecDepth 100000 in
set_option maxHeartbeats 800000 in
theorem vecDet_any (B : Nat) (m : List (List Int)) (v : Value) (w : World) (hv : Mat B 28 3 w v m) :
    Calls Try.prog 8 #[v] w fun e w' => e = .returned (.tuple #[.int .i64 (detA m), .int .i64 (detE m)]) ∧ Below w.heap.size w w' := by
  obtain ⟨ao, cap, hvv, hlc, hcm⟩ := mat_open hv
  subst hvv
  have HV : Hid (Mat B 28 3 w (.slice ao m.length cap) m) := hv
  clear hv
  go_enter Try.func8, Try.ntmps8
  go_wp2_with fail
  refine (check_any B m _ w HV.out).mono ?_
  rintro e w1 ⟨rfl, hb1⟩
  have HB : Hid (Below w.heap.size w w1) := hb1
  have HV1 : Hid (Mat B 28 3 w1 (.slice ao m.length cap) m) := HV.out.below hb1 (Nat.le_refl _)
  clear hb1
  obtain ⟨x, hx⟩ : ∃ x, x = vecE m := ⟨_, rfl⟩
  have HX : Hid (x = vecE m) := hx
  rw [← hx]
  by_cases hx0 : x = 0
  · obtain ⟨hm1, hm24, hmx⟩ := vec_ok (m := m) (by rw [← hx]; exact hx0)
    have hxb : (x != 0) = false := by simp [hx0]
    have HE : Hid (detE m = if m.length = wid m then 0 else 3) := if_pos (by rw [← hx]; exact hx0)
    have HMX : Hid (Mx (wid m) 60 m) := hmx
    have HX0 : Hid (x = 0) := hx0
    obtain ⟨b, o, uo, uc, rfl, hcc, hul, hum⟩ := mat_first HV1.out hm1
    have hm0I : (0 : Int) < (m.length : Int) := by omega
    clear hx hx0 hmx
    by_cases hsq : m.length = wid m
    · have hsb : ((m.length : Int) != (wid m : Int)) = false := by rw [bne_eq_false_iff_eq]; omega
      have HE0 : Hid (detE m = 0) := by have := HE.out; rw [if_pos hsq] at this; exact this
      have HA : Hid (detA m = detL m) := if_pos HE0.out
      have HMQ : Hid (Mx m.length 60 m) := by rw [hsq]; exact HMX.out
      clear hsq
      go_wp2_with fail
      refine (detP_any B m _ w1 HMQ.out HV1.out hm1).mono ?_
      rintro e w2 ⟨rfl, hb2⟩
      have HB2 : Hid (Below w.heap.size w w2) := HB.out.trans (hb2.mono HB.out.size)
      clear hb2
      go_wp2
      go_ret2
      exact ⟨by rw [HA.out, HE0.out]; rfl, HB2.out⟩
    · have hsb : ((m.length : Int) != (wid m : Int)) = true := by rw [bne_iff_ne]; omega
      have HE3 : Hid (detE m = 3) := by have := HE.out; rw [if_neg hsq] at this; exact this
      have HA : Hid (detA m = 0) := if_neg (by rw [HE3.out]; decide)
      clear hsq
      go_wp2
      go_ret2
      exact ⟨by rw [HA.out, HE3.out]; rfl, HB.out⟩
  · have hxb : (x != 0) = true := by simp [hx0]
    have HE : Hid (detE m = x) := by have : detE m = vecE m := if_neg (by rw [← hx]; exact hx0); rw [hx]; exact this
    have HA : Hid (detA m = 0) := if_neg (by rw [HE.out]; exact hx0)
    clear hx hx0
    go_wp2
    go_ret2
    exact ⟨by rw [HA.out, HE.out]; rfl, HB.out⟩

set_option maxRecDepth 100000 in
set_option maxHeartbeats 800000 in
theorem vecNormal_any (B : Nat) (m : List (List Int)) (v : Value) (w : World) (hv : Mat B 28 3 w v m) :
    Calls Try.prog 9 #[v] w fun e w' => ∃ uo uc, e = .returned (.tuple #[.slice uo (normA m).length uc, .int .i64 (normE m)]) ∧ Sl w'.heap.size 3 w' (.slice uo (normA m).length uc) (ints (normA m)) ∧ Below w.heap.size w w' := by
  obtain ⟨ao, cap, hvv, hlc, hcm⟩ := mat_open hv
  subst hvv
  have HV : Hid (Mat B 28 3 w (.slice ao m.length cap) m) := hv
  clear hv
  go_enter Try.func9, Try.ntmps9
  go_wp2_with fail
  refine (check_any B m _ w HV.out).mono ?_
  rintro e w1 ⟨rfl, hb1⟩
  have HB : Hid (Below w.heap.size w w1) := hb1
  have HV1 : Hid (Mat B 28 3 w1 (.slice ao m.length cap) m) := HV.out.below hb1 (Nat.le_refl _)
  clear hb1
  obtain ⟨x, hx⟩ : ∃ x, x = vecE m := ⟨_, rfl⟩
  have HX : Hid (x = vecE m) := hx
  rw [← hx]
  by_cases hx0 : x = 0
  · obtain ⟨hm1, hm24, hmx⟩ := vec_ok (m := m) (by rw [← hx]; exact hx0)
    have hxb : (x != 0) = false := by simp [hx0]
    have HE : Hid (normE m = if wid m < 2 then 1 else if normB (wid m) m then 0 else 5) := if_pos (by rw [← hx]; exact hx0)
    have HMX : Hid (Mx (wid m) 60 m) := hmx
    have HX0 : Hid (x = 0) := hx0
    have hw1 : 1 ≤ wid m := hmx.c1
    have hw5 : wid m ≤ 5 := hmx.c5
    obtain ⟨b, o, uo, uc, rfl, hcc, hul, hum⟩ := mat_first HV1.out hm1
    have hm0I : (0 : Int) < (m.length : Int) := by omega
    clear hx hx0 hmx
    by_cases hsq : wid m < 2
    · have hsb : ((wid m : Int) == 1) = true := by rw [beq_iff_eq]; omega
      have HE1 : Hid (normE m = 1) := by have := HE.out; rw [if_pos hsq] at this; exact this
      have HA : Hid (normA m = []) := if_neg (by rw [HE1.out]; decide)
      clear hsq
      go_wp2
      go_ret2
      exact ⟨none, 0, by rw [HA.out, HE1.out]; rfl, by rw [HA.out]; exact Sl.nil _ _ _, HB.out⟩
    · have hsb : ((wid m : Int) == 1) = false := by rw [beq_eq_false_iff_ne]; omega
      have HE2 : Hid (normE m = if normB (wid m) m then 0 else 5) := by have := HE.out; rw [if_neg hsq] at this; exact this
      clear hsq
      go_wp2_with fail
      refine (normalP_any B (wid m) m _ w1 HMX.out HV1.out (by omega) hm1).mono ?_
      rintro e w2 ⟨y, rfl, hs2, hb2⟩
      have HB2 : Hid (Below w.heap.size w w2) := HB.out.trans (hb2.mono HB.out.size)
      obtain ⟨yo, yc, hy, _, _⟩ := sl_open hs2
      subst hy
      have HS2 : Hid (Sl w1.heap.size 3 w2 (.slice yo (normL (wid m) m).length yc) (ints (normL (wid m) m))) := hs2
      clear hb2 hs2
      cases hnb : normB (wid m) m
      · have HE5 : Hid (normE m = 5) := by have := HE2.out; rw [hnb] at this; exact this
        have HA : Hid (normA m = []) := if_neg (by rw [HE5.out]; decide)
        generalize (normL (wid m) m).length = nl at *
        go_wp2
        go_ret2
        exact ⟨none, 0, by rw [HA.out, HE5.out]; rfl, by rw [HA.out]; exact Sl.nil _ _ _, HB2.out⟩
      · have HE0 : Hid (normE m = 0) := by have := HE2.out; rw [hnb] at this; exact this
        have HA : Hid (normA m = normL (wid m) m) := if_pos HE0.out
        obtain ⟨nl, hnl⟩ : ∃ nl, nl = (normL (wid m) m).length := ⟨_, rfl⟩
        have HNL : Hid (nl = (normL (wid m) m).length) := hnl
        rw [← hnl] at HS2 ⊢
        clear hnl
        go_wp2
        go_ret2
        exact ⟨yo, yc, by rw [HA.out, HE0.out, ← HNL.out]; rfl, by rw [HA.out, ← HNL.out]; exact Sl.any HS2.out (Nat.le_refl _), HB2.out⟩
  · have hxb : (x != 0) = true := by simp [hx0]
    have HE : Hid (normE m = x) := by have : normE m = vecE m := if_neg (by rw [← hx]; exact hx0); rw [hx]; exact this
    have HA : Hid (normA m = []) := if_neg (by rw [HE.out]; exact hx0)
    clear hx hx0
    go_wp2
    go_ret2
    exact ⟨none, 0, by rw [HA.out, HE.out]; rfl, by rw [HA.out]; exact Sl.nil _ _ _, HB.out⟩

end Go.Proofs.Ythbjdgpkcekafaa
