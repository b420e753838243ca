/- TropicLeast: any square. -/
import Derived.Test.YthocinibieefkaaTw8
import Derived.Test.YthocinibieefkaaTw10
import Derived.Test.YthocinibieefkaaHv1
namespace Go.Proofs.Ythocinibieefkaa
open Go.RowKit
attribute [local go_sem ↓] Go.wp_at_zero Go.wp_at_succ

theorem sum_getT : ∀ (V : List Int), V.sum = sumF (fun j => V.getD j 0) V.length := by
  intro V
  rw [sumF_list]
  congr 1
  refine List.ext_getElem (by simp) fun i h1 h2 => ?_
  simp [h1]

/-- What Prices answers is fair. -/
structure Fair (M : List (List Int)) : Prop where
  rl : (prR M).length = M.length
  cl : (prC M).length = M.length
  rb : ∀ z ∈ prR M, z.natAbs ≤ 130000
  cb : ∀ z ∈ prC M, z.natAbs ≤ 130000
  sum : (prR M).sum + (prC M).sum = (leastQ M).1
  fair : ∀ i j, i < M.length → j < M.length → (prR M).getD i 0 + (prC M).getD j 0 ≤ ent M i j

theorem fair_ok {M : List (List Int)} (h : sqE M = 0) : Fair M := by
  obtain ⟨hl, hb⟩ := leastC_ok h
  have eR : prR M = prU M (leastQ M).2 (rnds M (fun i => ((leastQ M).2.getD i 0).toNat) M.length M.length) := if_pos h
  have eC : prC M = rnds M (fun i => ((leastQ M).2.getD i 0).toNat) M.length M.length := if_pos h
  have hP := prc_rnds hl M.length
  have hVl : (rnds M (fun i => ((leastQ M).2.getD i 0).toNat) M.length M.length).length = M.length := by
    obtain ⟨L, _, _, h3⟩ := hP
    exact h3.1
  have hlt : ∀ i, i < M.length → ((leastQ M).2.getD i 0).toNat < M.length := fun i hi => hl.ins.lt i hi
  have hRi : ∀ i, i < M.length → (prR M).getD i 0 = ent M i ((leastQ M).2.getD i 0).toNat - (prC M).getD ((leastQ M).2.getD i 0).toNat 0 := fun i hi => by
    rw [eR, eC]
    simp only [prU]
    rw [List.getD_eq_getElem?_getD, List.getElem?_map, List.getElem?_range hi]
    rfl
  have hCj : ∀ j, j < M.length → -120000 ≤ (prC M).getD j 0 ∧ (prC M).getD j 0 ≤ 0 := fun j hj => by rw [eC]; exact hP.bd hl hj
  have hrl : (prR M).length = M.length := by rw [eR]; exact prU_len _ _ _
  have hcl : (prC M).length = M.length := by rw [eC]; exact hVl
  have hmem : ∀ (l : List Int) z, z ∈ l → ∃ i, i < l.length ∧ l.getD i 0 = z := fun l z hz => by
    obtain ⟨i, hi, rfl⟩ := List.getElem_of_mem hz
    exact ⟨i, hi, by simp [hi]⟩
  refine ⟨hrl, hcl, fun z hz => ?_, fun z hz => ?_, ?_, fun i j hi hj => ?_⟩
  · obtain ⟨i, hi, rfl⟩ := hmem _ z hz
    rw [hrl] at hi
    rw [hRi i hi]
    have h1 := hl.sq.ent (i := i) (j := ((leastQ M).2.getD i 0).toNat)
    have h2 := hCj _ (hlt i hi)
    omega
  · obtain ⟨i, hi, rfl⟩ := hmem _ z hz
    rw [hcl] at hi
    have h2 := hCj _ hi
    omega
  · have h1 := rnds_even (M := M) hl.ins (prC M)
    rw [sum_getT (prC M), hcl, hb]
    have e : (prR M).sum = sumF (fun i => ent M i ((leastQ M).2.getD i 0).toNat - (prC M).getD ((leastQ M).2.getD i 0).toNat 0) M.length := by
      rw [sumF_list, eR, eC]
      rfl
    rw [e]
    exact h1
  · rw [hRi i hi, eC]
    exact rnds_fair (M := M) hl.ins hl.min hl.low hi hj

set_option maxRecDepth 100000 in
set_option maxHeartbeats 3200000 in
theorem tropicLeast_any (M : List (List Int)) (v : Value) (w : World) (hv : Mat w.heap.size 26 3 w v M) :
    Calls Try.prog 3 #[v] w fun e w' => e = .returned (.bool true) ∧ Below w.heap.size w w' := by
  obtain ⟨po, pc, hvv, hlc, hcm⟩ := mat_open hv
  subst hvv
  have HV : Hid (Mat w.heap.size 26 3 w (.slice po M.length pc) M) := hv
  have HHV : Hid (Calls Try.prog 5 #[.slice po M.length pc] w fun e w' => ∃ b, e = .returned (.bool b) ∧ (b = false → M.length ≤ 300) ∧ w' = w) := heavy_any _ M _ w hv
  have HSM : Hid (Calls Try.prog 6 #[.slice po M.length pc] w fun e w' => e = .returned (.int .i64 (sqE M)) ∧ ∃ n, w' = w.drewN n) := squareMay_any _ M _ w hv
  clear hv
  go_enter Try.func3, Try.ntmps3
  go_wp2_with fail
  refine HHV.out.mono ?_
  rintro e w' ⟨b, rfl, hb, hww⟩
  rw [hww]
  clear hww w' HHV
  cases b
  case true =>
    clear hb
    go_wp2
    go_ret
    exact ⟨rfl, Below.refl _ _⟩
  case false =>
    have h300 := hb rfl
    clear hb
    go_wp2_with fail
    refine HSM.out.mono ?_
    rintro e w0 ⟨rfl, d, rfl⟩
    have HB0 : Hid (Below w.heap.size w (w.drewN d)) := ⟨rfl, rfl, rfl, Nat.le_refl _, fun _ _ => rfl⟩
    have HV0 : Hid (Mat (w.drewN d).heap.size 26 3 (w.drewN d) (.slice po M.length pc) M) := HV.out.drewN d
    clear HSM
    obtain ⟨w0, hw0⟩ : ∃ w0, w0 = w.drewN d := ⟨_, rfl⟩
    rw [← hw0] at HB0 HV0 ⊢
    clear hw0 HV
    have HVX : Hid (∀ w1, Below w0.heap.size w0 w1 → Mat w1.heap.size 26 3 w1 (.slice po M.length pc) M) := fun w1 hb => (HV0.out.below hb (Nat.le_refl _)).more hb.size
    have HEND : Hid (∀ w1, Below w0.heap.size w0 w1 → Below w.heap.size w w1) := fun w1 hb => HB0.out.trans (hb.mono HB0.out.size)
    have HCS : Hid (∀ w1, Below w0.heap.size w0 w1 → Calls Try.prog 10 #[.slice po M.length pc] w1 fun e w' => e = .returned (.int .i64 (sqE M)) ∧ Below w1.heap.size w1 w') := fun w1 hb => checkSquare_any M _ w1 (HVX.out w1 hb)
    by_cases hq : sqE M = 0
    · have hM := sq_ok hq
      have HM : Hid (Sqr M) := hM
      have HF : Hid (Fair M) := fair_ok hq
      have HLQ : leastQ M = leastP M M.length (ords M.length M.length []) := if_pos hq
      have h6 := hM.n6
      have hn1 := hM.n1
      have HLO : Hid (Calls Try.prog 7 #[.slice po M.length pc] w0 fun e w' => ∃ co cc, e = .returned (.tuple #[.int .i64 (leastQ M).1, .slice co (leastQ M).2.length cc]) ∧ Sl w'.heap.size 3 w' (.slice co (leastQ M).2.length cc) (ints (leastQ M).2) ∧ Below w0.heap.size w0 w') :=
        (leastOf_any M _ w0 hM HV0.out).mono (by
          rintro e w' ⟨cv, rfl, h1, h2⟩
          rw [← HLQ] at h1 ⊢
          obtain ⟨co, cc, rfl, _, _⟩ := sl_open h1
          exact ⟨co, cc, rfl, h1, h2⟩)
      have HLE : Hid (∀ w1, Below w0.heap.size w0 w1 → Calls Try.prog 8 #[.slice po M.length pc] w1 fun e w' => ∃ co cc, e = .returned (.tuple #[.int .i64 (leastQ M).1, .slice co (leastQ M).2.length cc, .int .i64 0]) ∧ Sl 0 3 w' (.slice co (leastQ M).2.length cc) (ints (leastQ M).2) ∧ Below w1.heap.size w1 w') := fun w1 hb =>
        (least_any M _ w1 (HVX.out w1 hb)).mono (by
          rintro e w' ⟨cv, rfl, h1, h2⟩
          rw [hq]
          obtain ⟨co, cc, rfl⟩ := owns_form h1
          exact ⟨co, cc, rfl, Sl.own h1, h2⟩)
      have HPX : Hid (∀ w1, Below w0.heap.size w0 w1 → Calls Try.prog 9 #[.slice po M.length pc] w1 fun e w' => ∃ uo uc co cc, e = .returned (.tuple #[.slice uo M.length uc, .slice co M.length cc, .int .i64 0]) ∧ Sl 0 3 w' (.slice uo M.length uc) (ints (prR M)) ∧ Sl 0 3 w' (.slice co M.length cc) (ints (prC M)) ∧ Below w1.heap.size w1 w') := fun w1 hb =>
        (prices_any M _ w1 (HVX.out w1 hb)).mono (by
          rintro e w' ⟨u, cv, rfl, h1, h2, h3⟩
          rw [HF.out.rl] at h1
          rw [HF.out.cl] at h2
          rw [hq]
          obtain ⟨uo, uc, rfl⟩ := owns_form h1
          obtain ⟨co, cc, rfl⟩ := owns_form h2
          exact ⟨uo, uc, co, cc, rfl, Sl.own h1, Sl.own h2, h3⟩)
      rw [hq] at HCS ⊢
      have HNUM : Hid (∀ w1, Calls Try.prog 11 #[.int .i64 (leastQ M).1, .int .i64 0, .int .i64 (leastQ M).1, .int .i64 0] w1 fun x w' => x = .returned (.bool true) ∧ w' = w1) := fun w1 => num_true _ 0 _ 0 w1 rfl (fun h => absurd rfl h) (fun _ => rfl)
      have HBB : Hid (-2000000 ≤ (leastQ M).1 ∧ (leastQ M).1 ≤ 2000000) := by
        have h1 := sumL_bd (l := prR M) (b := 130000) (prR M).length (Nat.le_refl _) HF.out.rb
        have h2 := sumL_bd (l := prC M) (b := 130000) (prC M).length (Nat.le_refl _) HF.out.cb
        rw [List.take_length, HF.out.rl] at h1
        rw [List.take_length, HF.out.cl] at h2
        have h3 := HF.out.sum
        have h4 : 130000 * M.length ≤ 130000 * 6 := Nat.mul_le_mul_left _ h6
        show _ ∧ _
        omega
      have HSM2 : Hid ((prR M).sum + (prC M).sum = (leastQ M).1) := HF.out.sum
      have HSB : Hid ((-1000000 ≤ (prR M).sum ∧ (prR M).sum ≤ 1000000) ∧ (-1000000 ≤ (prC M).sum ∧ (prC M).sum ≤ 1000000)) := by
        have h1 := sumL_bd (l := prR M) (b := 130000) (prR M).length (Nat.le_refl _) HF.out.rb
        have h2 := sumL_bd (l := prC M) (b := 130000) (prC M).length (Nat.le_refl _) HF.out.cb
        rw [List.take_length, HF.out.rl] at h1
        rw [List.take_length, HF.out.cl] at h2
        have h4 : 130000 * M.length ≤ 130000 * 6 := Nat.mul_le_mul_left _ h6
        show _ ∧ _
        omega
      clear HLQ hq hM
      generalize (leastQ M).1 = Z at *
      generalize (leastQ M).2 = c at *
      go_wp2_with fail
      refine HLO.out.mono ?_
      rintro e w1 ⟨co, cc, rfl, hs1, hb1⟩
      have HS1 : Hid (Sl w1.heap.size 3 w1 (.slice co c.length cc) (ints c)) := hs1
      have HB1 : Hid (Below w0.heap.size w0 w1) := hb1
      clear hs1 hb1 HLO
      go_wp2_with fail
      refine (HLE.out w1 HB1.out).mono ?_
      rintro e w2 ⟨do', dc, rfl, hs2, hb2⟩
      have HB2 : Hid (Below w0.heap.size w0 w2) := HB1.out.trans (hb2.mono HB1.out.size)
      have HS2 : Hid (Sl w1.heap.size 3 w2 (.slice co c.length cc) (ints c)) := HS1.out.below hb2 (Nat.le_refl _)
      have HT2 : Hid (Sl 0 3 w2 (.slice do' c.length dc) (ints c)) := hs2
      have HSZ2 : Hid (w1.heap.size ≤ w2.heap.size) := hb2.size
      clear hb2 hs2 HLE HS1 HB1
      go_wp2_with fail
      refine (HPX.out w2 HB2.out).mono ?_
      rintro e w3 ⟨uo, uc, vo, vc, rfl, hu3, hv3, hb3⟩
      have HB3 : Hid (Below w0.heap.size w0 w3) := HB2.out.trans (hb3.mono HB2.out.size)
      have HS3 : Hid (Sl w1.heap.size 3 w3 (.slice co c.length cc) (ints c)) := HS2.out.below hb3 (Nat.le_refl _)
      have HT3 : Hid (Sl 0 3 w3 (.slice do' c.length dc) (ints c)) := HT2.out.below hb3 (Nat.le_refl _)
      have HU3 : Hid (Sl 0 3 w3 (.slice uo M.length uc) (ints (prR M))) := hu3
      have HV3 : Hid (Sl 0 3 w3 (.slice vo M.length vc) (ints (prC M))) := hv3
      clear hb3 hu3 hv3 HPX HS2 HT2 HB2
      go_wp2_with fail
      refine (HCS.out w3 HB3.out).mono ?_
      rintro e w4 ⟨rfl, hb4⟩
      have HB4 : Hid (Below w0.heap.size w0 w4) := HB3.out.trans (hb4.mono HB3.out.size)
      have HU4 : Hid (Sl 0 3 w4 (.slice uo M.length uc) (ints (prR M))) := HU3.out.below hb4 (Nat.le_refl _)
      have HV4 : Hid (Sl 0 3 w4 (.slice vo M.length vc) (ints (prC M))) := HV3.out.below hb4 (Nat.le_refl _)
      have HSA : Hid (Calls Try.prog 12 #[.slice do' c.length dc, .slice co c.length cc] w4 fun e w' => e = .returned (.bool true) ∧ Below w0.heap.size w0 w' ∧ Sl 0 3 w' (.slice uo M.length uc) (ints (prR M)) ∧ Sl 0 3 w' (.slice vo M.length vc) (ints (prC M))) :=
        (same_any w1.heap.size c c _ _ w4 ((HT3.out.below hb4 (Nat.le_refl _)).more (Nat.zero_le _)) (HS3.out.below hb4 (Nat.le_refl _))).mono (by
          rintro e w' ⟨rfl, n, rfl⟩
          exact ⟨by simp, HB4.out.trans ⟨rfl, rfl, rfl, Nat.le_refl _, fun _ _ => rfl⟩, HU4.out.drewN n, HV4.out.drewN n⟩)
      clear hb4 HCS HS3 HT3 HB3 HU3 HV3
      go_wp2_with (first | (go_at_call 11; refine (HNUM.out _).mono ?_; rintro e w' ⟨rfl, hww⟩; rw [hww]; clear hww w'))
      refine HSA.out.mono ?_
      rintro e w5 ⟨rfl, hb5, hu5, hv5⟩
      have HB5 : Hid (Below w0.heap.size w0 w5) := hb5
      have HU5 : Hid (Sl 0 3 w5 (.slice uo M.length uc) (ints (prR M))) := hu5
      have HV5 : Hid (Sl 0 3 w5 (.slice vo M.length vc) (ints (prC M))) := hv5
      have HM5 : Hid (Mat w5.heap.size 26 3 w5 (.slice po M.length pc) M) := HVX.out w5 hb5
      have HFU : Hid (Calls Try.prog 13 #[.slice uo M.length uc, .int .i64 1000000000] w5 fun e w' => e = .returned (.bool false) ∧ w' = w5) :=
        (farAny_any 0 (prR M) _ 1000000000 w5 hu5 (by decide) (by decide)).mono (by
          rintro e w' ⟨rfl, rfl⟩
          refine ⟨ret_bool ?_, rfl⟩
          rw [List.any_eq_false]
          intro z hz
          have := HF.out.rb z hz
          simp [farB]
          omega)
      have HFV : Hid (Calls Try.prog 13 #[.slice vo M.length vc, .int .i64 1000000000] w5 fun e w' => e = .returned (.bool false) ∧ w' = w5) :=
        (farAny_any 0 (prC M) _ 1000000000 w5 hv5 (by decide) (by decide)).mono (by
          rintro e w' ⟨rfl, rfl⟩
          refine ⟨ret_bool ?_, rfl⟩
          rw [List.any_eq_false]
          intro z hz
          have := HF.out.cb z hz
          simp [farB]
          omega)
      have HSU : Hid (Calls Try.prog 14 #[.slice uo M.length uc] w5 fun e w' => e = .returned (.int .i64 (prR M).sum) ∧ ∃ n, w' = w5.drewN n) :=
        sumT_any 0 (prR M) _ w5 hu5 (by rw [HF.out.rl]; omega) (fun z hz => by have := HF.out.rb z hz; omega)
      have HSV : Hid (∀ n, Calls Try.prog 14 #[.slice vo M.length vc] (w5.drewN n) fun e w' => e = .returned (.int .i64 (prC M).sum) ∧ ∃ n, w' = w5.drewN n) := fun n =>
        (sumT_any 0 (prC M) _ (w5.drewN n) (hv5.drewN n) (by rw [HF.out.cl]; omega) (fun z hz => by have := HF.out.cb z hz; omega)).mono (by
          rintro e w' ⟨rfl, m, rfl⟩
          exact ⟨rfl, n + m, by rw [World.drewN_drewN]⟩)
      clear hb5 hu5 hv5 HSA HU4 HV4 HB4 HNUM
      obtain ⟨⟨hA1, hA2⟩, hB1, hB2⟩ := HSB.out
      have hsz := HSM2.out
      subst hsz
      clear HSM2 HBB HSB
      generalize (prR M).sum = A at *
      generalize (prC M).sum = B at *
      go_wp2_with fail
      refine HFU.out.mono ?_
      rintro e w' ⟨rfl, hww⟩
      rw [hww]
      clear hww w' HFU
      go_wp2_with fail
      refine HFV.out.mono ?_
      rintro e w' ⟨rfl, hww⟩
      rw [hww]
      clear hww w' HFV
      go_wp2_with fail
      refine HSU.out.mono ?_
      rintro e w' ⟨rfl, n1, rfl⟩
      clear HSU
      go_wp2_with fail
      refine (HSV.out n1).mono ?_
      rintro e w' ⟨rfl, n2, rfl⟩
      clear HSV
      obtain ⟨n, hn⟩ : ∃ n, n = M.length := ⟨_, rfl⟩
      have HNL : Hid (M.length = n) := hn.symm
      rw [← hn] at HU5 HV5 HM5 h6 hn1 ⊢
      clear hn h300
      go_wp2
      go_loopw [12] (fun i wr => ∃ k : Nat, k ≤ n ∧ i = .int .i64 k ∧ ∃ d, wr = w5.drewN d) (fun i _ => n - (intOf i).toNat)
      case atStart => exact ⟨0, Nat.zero_le _, rfl, _, rfl⟩
      case round =>
        obtain ⟨i, hi, rfl, d1, rfl⟩ := hrel
        by_cases hil : i < n
        · go_wp2
          go_loopw [13] (fun i wr => ∃ k : Nat, k ≤ n ∧ i = .int .i64 k ∧ ∃ d, wr = w5.drewN d) (fun i _ => n - (intOf i).toNat)
          case atStart => exact ⟨0, Nat.zero_le _, rfl, _, rfl⟩
          case round =>
            obtain ⟨k, hk, rfl, d2, rfl⟩ := hrel
            by_cases hkl : k < n
            · have hMi : i < M.length := by rw [HNL.out]; exact hil
              have hMk : k < M.length := by rw [HNL.out]; exact hkl
              have hfr := HF.out.fair i k hMi hMk
              have hl1 : i < (prR M).length := by rw [HF.out.rl]; exact hMi
              have hl2 : k < (prC M).length := by rw [HF.out.cl]; exact hMk
              have hr1 := HF.out.rb ((prR M).getD i 0) (by simp [hl1])
              have hr2 := HF.out.cb ((prC M).getD k 0) (by simp [hl2])
              have hU := HU5.out
              rw [show n = (prR M).length by rw [HF.out.rl, HNL.out]] at hU
              obtain ⟨b1, o1, c1, hs1, _, hcc1⟩ := sl_cell hU (k := i) (by rw [HF.out.rl]; exact hMi)
              simp only [Value.slice.injEq] at hs1
              obtain ⟨rfl, _, rfl⟩ := hs1
              have hV := HV5.out
              rw [show n = (prC M).length by rw [HF.out.cl, HNL.out]] at hV
              obtain ⟨b2, o2, c2, hs2, _, hcc2⟩ := sl_cell hV (k := k) (by rw [HF.out.cl]; exact hMk)
              simp only [Value.slice.injEq] at hs2
              obtain ⟨rfl, _, rfl⟩ := hs2
              have hvm := HM5.out
              rw [show n = M.length from HNL.out.symm] at hvm
              obtain ⟨b3, o3, c3, r, hs3, _, hcc3, hr⟩ := mat_cell hvm (k := i) hMi
              simp only [Value.slice.injEq, true_and] at hs3
              obtain ⟨rfl, rfl⟩ := hs3
              have hrl : (M.getD i []).length = n := by
                have e : M.getD i [] = M[i]'hMi := by simp [hMi]
                rw [e, HM.out.len _ (List.getElem_mem _), HNL.out]
              obtain ⟨b4, o4, c4, hs4, hc4, hcc4⟩ := sl_cell hr (k := k) (by omega)
              subst hs4
              have he : (M.getD i []).getD k 0 = ent M i k := rfl
              rw [he] at hcc4
              rw [hrl] at hcc3 hc4
              clear hr hU hV hvm hrl he hMi hMk hl1 hl2
              generalize ent M i k = E at *
              generalize (prR M).getD i 0 = X at *
              generalize (prC M).getD k 0 = Y at *
              have hx1 : -130000 ≤ X ∧ X ≤ 130000 := by omega
              have hy1 : -130000 ≤ Y ∧ Y ≤ 130000 := by omega
              have hcmp : decide (E < X + Y) = false := decide_eq_false (by omega)
              clear hfr hr1 hr2
              go_wp2
              go_region
              all_goals
                go_wp2
                exact ⟨⟨k + 1, by omega, by go_num, _, rfl⟩, by simp [intOf]; omega⟩
            · have hkf : decide ((k : Int) < (n : Int)) = false := by simp; omega
              go_wp2
              exact ⟨⟨i + 1, by omega, by go_num, _, rfl⟩, by simp [intOf]; omega⟩
        · have hif : decide ((i : Int) < (n : Int)) = false := by simp; omega
          have HE : Hid (Below w.heap.size w (w5.drewN d1)) := HEND.out _ (HB5.out.trans ⟨rfl, rfl, rfl, Nat.le_refl _, fun _ _ => rfl⟩)
          go_wp2
          go_ret
          exact ⟨rfl, HE.out⟩
    · have hLQ : leastQ M = (0, []) := if_neg hq
      have hPR : prR M = [] := if_neg hq
      have hPC : prC M = [] := if_neg hq
      have hqe : (sqE M == 0) = false := by simpa using hq
      have hqn : (sqE M != 0) = true := by simpa using hq
      have HLE : Hid (Calls Try.prog 8 #[.slice po M.length pc] w0 fun e w' => ∃ co cc, e = .returned (.tuple #[.int .i64 0, .slice co 0 cc, .int .i64 (sqE M)]) ∧ Sl 0 3 w' (.slice co 0 cc) (ints []) ∧ Below w0.heap.size w0 w') :=
        (least_any M _ w0 HV0.out).mono (by
          rintro e w' ⟨cv, rfl, h1, h2⟩
          rw [hLQ] at h1 ⊢
          obtain ⟨co, cc, rfl⟩ := owns_form h1
          exact ⟨co, cc, rfl, Sl.own h1, h2⟩)
      have HPX : Hid (∀ w1, Below w0.heap.size w0 w1 → Calls Try.prog 9 #[.slice po M.length pc] w1 fun e w' => ∃ uo uc co cc, e = .returned (.tuple #[.slice uo 0 uc, .slice co 0 cc, .int .i64 (sqE M)]) ∧ Below w1.heap.size w1 w') := fun w1 hb =>
        (prices_any M _ w1 (HVX.out w1 hb)).mono (by
          rintro e w' ⟨u, cv, rfl, h1, h2, h3⟩
          rw [hPR] at h1
          rw [hPC] at h2
          obtain ⟨uo, uc, rfl⟩ := owns_form h1
          obtain ⟨co, cc, rfl⟩ := owns_form h2
          exact ⟨uo, uc, co, cc, rfl, h3⟩)
      have HNUM : Hid (∀ w1, Calls Try.prog 11 #[.int .i64 0, .int .i64 (sqE M), .int .i64 0, .int .i64 (sqE M)] w1 fun x w' => x = .returned (.bool true) ∧ w' = w1) := fun w1 => num_true 0 (sqE M) 0 (sqE M) w1 rfl (fun _ => rfl) (fun _ => rfl)
      clear hLQ hPR hPC hq
      generalize sqE M = q at *
      go_wp2_with fail
      refine HLE.out.mono ?_
      rintro e w1 ⟨co, cc, rfl, hs1, hb1⟩
      have HS1 : Hid (Sl 0 3 w1 (.slice co 0 cc) (ints [])) := hs1
      have HB1 : Hid (Below w0.heap.size w0 w1) := hb1
      clear hs1 hb1 HLE
      go_wp2_with fail
      refine (HPX.out w1 HB1.out).mono ?_
      rintro e w2 ⟨uo, uc, vo, vc, rfl, hb2⟩
      have HB2 : Hid (Below w0.heap.size w0 w2) := HB1.out.trans (hb2.mono HB1.out.size)
      have HS2 : Hid (Sl 0 3 w2 (.slice co 0 cc) (ints [])) := HS1.out.below hb2 (Nat.le_refl _)
      clear hb2 HPX HS1 HB1
      go_wp2_with fail
      refine (HCS.out w2 HB2.out).mono ?_
      rintro e w3 ⟨rfl, hb3⟩
      have HB3 : Hid (Below w0.heap.size w0 w3) := HB2.out.trans (hb3.mono HB2.out.size)
      have HSA : Hid (Calls Try.prog 12 #[.slice co 0 cc, .slice none 0 0] w3 fun e w' => e = .returned (.bool true) ∧ Below w0.heap.size w0 w') :=
        (same_any 0 [] [] _ _ w3 (HS2.out.below hb3 (Nat.le_refl _)) (Sl.nil _ _ _)).mono (by
          rintro e w' ⟨rfl, n, rfl⟩
          exact ⟨rfl, HB3.out.trans ⟨rfl, rfl, rfl, Nat.le_refl _, fun _ _ => rfl⟩⟩)
      clear hb3 HCS HS2 HB2
      go_wp2_with (first | (go_at_call 11; refine (HNUM.out _).mono ?_; rintro e w' ⟨rfl, hww⟩; rw [hww]; clear hww w') | (go_at_call 12; refine HSA.out.mono ?_; rintro e w4 ⟨rfl, hb4⟩))
      have HE := HEND.out _ hb4
      clear hb4
      go_ret
      exact ⟨rfl, HE⟩

end Go.Proofs.Ythocinibieefkaa
