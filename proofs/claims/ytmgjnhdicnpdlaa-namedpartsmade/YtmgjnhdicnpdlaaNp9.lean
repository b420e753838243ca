/- NamedParts: any square. -/
import Derived.Test.YtmgjnhdicnpdlaaNp4
import Derived.Test.YtmgjnhdicnpdlaaNp6
import Derived.Test.YtmgjnhdicnpdlaaNp8
import Derived.Test.YtmgjnhdicnpdlaaLs1
namespace Go.Proofs.Ytmgjnhdicnpdlaa
open Go.RowKit
attribute [local go_sem ↓] Go.wp_at_zero Go.wp_at_succ

set_option maxRecDepth 100000 in
theorem lists_sameN (B : Nat) (x : List (List Int)) (u v : Value) (w : World) (hu : Mat B 26 3 w u x) (hv : Mat B 26 3 w v x) :
    Calls Try.prog 10 #[u, .int .i64 0, v, .int .i64 0] w fun e w' => e = .returned (.bool true) ∧ Below w.heap.size w w' := by
  obtain ⟨uo, uc, rfl, _, _⟩ := mat_open hu
  obtain ⟨vo, vc, rfl, _, _⟩ := mat_open hv
  have HU : Hid (Mat B 26 3 w (.slice uo x.length uc) x) := hu
  have HV : Hid (Mat B 26 3 w (.slice vo x.length vc) x) := hv
  clear hu hv
  go_enter Try.func10, Try.ntmps10
  go_wp2_with fail
  refine (sameAll_any B x x _ _ w HU.out HV.out).mono ?_
  rintro e w' ⟨rfl, n, rfl⟩
  have hxx : (x == x) = true := by simp
  rw [hxx]
  go_wp2
  go_ret
  exact ⟨rfl, ⟨rfl, rfl, rfl, Nat.le_refl _, fun _ _ => rfl⟩⟩

set_option maxRecDepth 100000 in
theorem lists_none (q : Int) (hq : q ≠ 0) (uo vo : Option Addr) (uc vn vc : Nat) (w : World) :
    Calls Try.prog 10 #[.slice uo 0 uc, .int .i64 q, .slice vo vn vc, .int .i64 q] w fun e w' => e = .returned (.bool true) ∧ w' = w := by
  have h1 : (q != 0) = true := by simpa using hq
  clear hq
  go_enter Try.func10, Try.ntmps10
  go_wp2
  go_ret
  exact ⟨ret_bool (by simp), rfl⟩

set_option maxRecDepth 100000 in
theorem list_none (q : Int) (hq : q ≠ 0) (uo vo : Option Addr) (uc vn vc : Nat) (w : World) :
    Calls Try.prog 11 #[.slice uo 0 uc, .int .i64 q, .slice vo vn vc, .int .i64 q] w fun e w' => e = .returned (.bool true) ∧ w' = w := by
  have h1 : (q != 0) = true := by simpa using hq
  clear hq
  go_enter Try.func11, Try.ntmps11
  go_wp2
  go_ret
  exact ⟨ret_bool (by simp), rfl⟩

set_option maxRecDepth 100000 in
set_option maxHeartbeats 3200000 in
theorem namedParts_any (m : List (List Int)) (v : Value) (w : World) (hv : Mat w.heap.size 26 3 w v m) :
    Calls Try.prog 3 #[v] w fun e w' => e = .returned (.bool true) ∧ Below w.heap.size w w' := by
  obtain ⟨po, pc, hvv, hlc, hcm⟩ := mat_open hv
  subst hvv
  have HV : Hid (Mat w.heap.size 26 3 w (.slice po m.length pc) m) := hv
  have HHV : Hid (Calls Try.prog 5 #[.slice po m.length pc] w fun e w' => ∃ b, e = .returned (.bool b) ∧ (b = false → m.length ≤ 300) ∧ w' = w) := heavy_any _ m _ w hv
  have HVX : Hid (∀ w1, Below w.heap.size w w1 → Mat w1.heap.size 26 3 w1 (.slice po m.length pc) m) := fun w1 hb => (HV.out.below hb (Nat.le_refl _)).more hb.size
  clear hv
  go_enter Try.func3, Try.ntmps3
  go_wp2_with fail
  refine HHV.out.mono ?_
  rintro e w0 ⟨b, rfl, -, rfl⟩
  cases b
  · go_wp2_with fail
    refine (evenMay_any m _ w0 (HVX.out w0 (Below.refl _ _))).mono ?_
    rintro e w1 ⟨rfl, q, hw1⟩
    have HB1 : Hid (Below w0.heap.size w0 w1) := by rw [hw1]; exact ⟨rfl, rfl, rfl, Nat.le_refl _, fun _ _ => rfl⟩
    clear hw1
    by_cases hq : evE m = 0
    · have hM := evE_sq hq
      have HPS : Hid (∀ w1, Below w0.heap.size w0 w1 → Calls Try.prog 7 #[.slice po m.length pc] w1 fun e w' => ∃ xo xc yo yc, e = .returned (.tuple #[.slice xo (prO m).length xc, .slice yo (prM m).length yc]) ∧ Mat w'.heap.size 26 3 w' (.slice xo (prO m).length xc) (prO m) ∧ Sl w'.heap.size 3 w' (.slice yo (prM m).length yc) (ints (prM m)) ∧ Below w1.heap.size w1 w') := fun w1 hb =>
        (partsOfSquare_any m _ w1 hM (HVX.out w1 hb)).mono (by
          rintro e w' ⟨x, y, rfl, h1, h2, h3⟩
          have e1 : (pFold m.length m (ords m.length m.length [])).ords = prO m := (if_pos hq).symm
          have e2 : (pFold m.length m (ords m.length m.length [])).many = prM m := (if_pos hq).symm
          rw [e1] at h1
          rw [e2] at h2
          have hm := h1.rws.mat h3.size
          have hs : Sl w'.heap.size 3 w' y (ints (prM m)) := Sl.own h2
          obtain ⟨xo, xc, rfl, _, _⟩ := mat_open hm
          obtain ⟨yo, yc, rfl⟩ := owns_form h2
          exact ⟨xo, xc, yo, yc, rfl, hm, hs, h3⟩)
      have HPA : Hid (∀ w1, Below w0.heap.size w0 w1 → Calls Try.prog 8 #[.slice po m.length pc] w1 fun e w' => ∃ xo xc yo yc, e = .returned (.tuple #[.slice xo (prO m).length xc, .slice yo (prM m).length yc, .int .i64 0]) ∧ Mat w'.heap.size 26 3 w' (.slice xo (prO m).length xc) (prO m) ∧ Sl w'.heap.size 3 w' (.slice yo (prM m).length yc) (ints (prM m)) ∧ Below w1.heap.size w1 w') := fun w1 hb =>
        (parts_any m _ w1 (HVX.out w1 hb)).mono (by
          rintro e w' ⟨x, y, rfl, h1, h2, h3⟩
          rw [hq]
          have hm := h1.rws.mat h3.size
          have hs : Sl w'.heap.size 3 w' y (ints (prM m)) := Sl.own h2
          obtain ⟨xo, xc, rfl, _, _⟩ := mat_open hm
          obtain ⟨yo, yc, rfl⟩ := owns_form h2
          exact ⟨xo, xc, yo, yc, rfl, hm, hs, h3⟩)
      have HCS : Hid (∀ w1, Below w0.heap.size w0 w1 → Calls Try.prog 9 #[.slice po m.length pc] w1 fun e w' => e = .returned (.int .i64 0) ∧ Below w1.heap.size w1 w') := fun w1 hb => by
        have := checkSquareN_any m _ w1 (HVX.out w1 hb)
        rw [hq] at this
        exact this
      rw [hq]
      clear hq hM
      go_wp2_with fail
      refine (HPS.out w1 HB1.out).mono ?_
      rintro e w2 ⟨xo, xc, yo, yc, rfl, hm2, hs2, hb2⟩
      have HB2 : Hid (Below w0.heap.size w0 w2) := HB1.out.trans (hb2.mono HB1.out.size)
      have HM2 : Hid (Mat w2.heap.size 26 3 w2 (.slice xo (prO m).length xc) (prO m)) := hm2
      have HS2 : Hid (Sl w2.heap.size 3 w2 (.slice yo (prM m).length yc) (ints (prM m))) := hs2
      clear hm2 hs2 hb2 HPS
      go_wp2_with fail
      refine (HPA.out w2 HB2.out).mono ?_
      rintro e w3 ⟨zo, zc, to, tc, rfl, hm3, hs3, hb3⟩
      have HB3 : Hid (Below w0.heap.size w0 w3) := HB2.out.trans (hb3.mono HB2.out.size)
      have HM3 : Hid (Mat w3.heap.size 26 3 w3 (.slice xo (prO m).length xc) (prO m)) := (HM2.out.below hb3 (Nat.le_refl _)).more hb3.size
      have HS3 : Hid (Sl w3.heap.size 3 w3 (.slice yo (prM m).length yc) (ints (prM m))) := (HS2.out.below hb3 (Nat.le_refl _)).more hb3.size
      have HN3 : Hid (Mat w3.heap.size 26 3 w3 (.slice zo (prO m).length zc) (prO m)) := hm3
      have HT3 : Hid (Sl w3.heap.size 3 w3 (.slice to (prM m).length tc) (ints (prM m))) := hs3
      clear hm3 hs3 hb3 HPA HM2 HS2
      go_wp2_with fail
      refine (HCS.out w3 HB3.out).mono ?_
      rintro e w4 ⟨rfl, hb4⟩
      have HB4 : Hid (Below w0.heap.size w0 w4) := HB3.out.trans (hb4.mono HB3.out.size)
      have HL1 : Hid (Calls Try.prog 10 #[.slice zo (prO m).length zc, .int .i64 0, .slice xo (prO m).length xc, .int .i64 0] w4 fun e w' => e = .returned (.bool true) ∧ Below w4.heap.size w4 w') :=
        lists_sameN w4.heap.size (prO m) _ _ w4 ((HN3.out.below hb4 (Nat.le_refl _)).more hb4.size) ((HM3.out.below hb4 (Nat.le_refl _)).more hb4.size)
      have HL2 : Hid (∀ w5, Below w4.heap.size w4 w5 → Calls Try.prog 11 #[.slice to (prM m).length tc, .int .i64 0, .slice yo (prM m).length yc, .int .i64 0] w5 fun e w' => e = .returned (.bool true) ∧ Below w5.heap.size w5 w') := fun w5 hb5 =>
        list_same w4.heap.size (prM m) _ _ w5 (((HT3.out.below hb4 (Nat.le_refl _)).more hb4.size).below hb5 (Nat.le_refl _)) (((HS3.out.below hb4 (Nat.le_refl _)).more hb4.size).below hb5 (Nat.le_refl _))
      clear hb4 HCS HM3 HS3 HN3 HT3
      go_wp2_with fail
      refine HL1.out.mono ?_
      rintro e w5 ⟨rfl, hb5⟩
      have HB5 : Hid (Below w4.heap.size w4 w5) := hb5
      clear hb5 HL1
      go_wp2_with fail
      refine (HL2.out w5 HB5.out).mono ?_
      rintro e w6 ⟨rfl, hb6⟩
      have HB6 : Hid (Below w0.heap.size w0 w6) := (HB4.out.trans (HB5.out.mono HB4.out.size)).trans (hb6.mono (Nat.le_trans HB4.out.size HB5.out.size))
      clear hb6 HL2
      go_wp2
      go_ret
      exact ⟨rfl, HB6.out⟩
    · have hO : prO m = [] := if_neg hq
      have hP : prM m = [] := if_neg hq
      have HPA : Hid (∀ w1, Below w0.heap.size w0 w1 → Calls Try.prog 8 #[.slice po m.length pc] w1 fun e w' => ∃ xo xc yo yc, e = .returned (.tuple #[.slice xo 0 xc, .slice yo 0 yc, .int .i64 (evE m)]) ∧ Below w1.heap.size w1 w') := fun w1 hb =>
        (parts_any m _ w1 (HVX.out w1 hb)).mono (by
          rintro e w' ⟨x, y, rfl, h1, h2, h3⟩
          rw [hO] at h1
          rw [hP] at h2
          obtain ⟨xo, xc, rfl, _, _⟩ := mat_open (h1.rws.mat h3.size)
          obtain ⟨yo, yc, rfl⟩ := owns_form h2
          exact ⟨xo, xc, yo, yc, rfl, h3⟩)
      have HCS : Hid (∀ w1, Below w0.heap.size w0 w1 → Calls Try.prog 9 #[.slice po m.length pc] w1 fun e w' => e = .returned (.int .i64 (evE m)) ∧ Below w1.heap.size w1 w') := fun w1 hb => checkSquareN_any m _ w1 (HVX.out w1 hb)
      have HQ : Hid (evE m ≠ 0) := hq
      have hqe : (evE m == 0) = false := by simpa using hq
      have hqq : (evE m == evE m) = true := by simp
      clear hO hP hq
      generalize evE m = q at *
      go_wp2_with fail
      refine (HPA.out w1 HB1.out).mono ?_
      rintro e w2 ⟨xo, xc, yo, yc, rfl, hb2⟩
      have HB2 : Hid (Below w0.heap.size w0 w2) := HB1.out.trans (hb2.mono HB1.out.size)
      clear hb2 HPA
      go_wp2_with fail
      refine (HCS.out w2 HB2.out).mono ?_
      rintro e w3 ⟨rfl, hb3⟩
      have HB3 : Hid (Below w0.heap.size w0 w3) := HB2.out.trans (hb3.mono HB2.out.size)
      clear hb3 HCS
      go_wp2_with fail
      refine (lists_none q HQ.out _ _ _ _ _ w3).mono ?_
      rintro e w4 ⟨rfl, hw4⟩
      rw [hw4]
      clear hw4 w4
      go_wp2_with fail
      refine (list_none q HQ.out _ _ _ _ _ w3).mono ?_
      rintro e w4 ⟨rfl, hw4⟩
      rw [hw4]
      clear hw4 w4
      go_wp2
      go_ret
      exact ⟨rfl, HB3.out⟩
  · go_wp2
    go_ret
    exact ⟨rfl, Below.refl _ _⟩

end Go.Proofs.Ytmgjnhdicnpdlaa
