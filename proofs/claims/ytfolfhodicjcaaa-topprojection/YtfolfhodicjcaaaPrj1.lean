/- TopProjection. -/
import Derived.Test.YtfolfhodicjcaaaFmAll
namespace Go.Proofs.Ytfolfhodicjcaaa
open Go.RowKit
attribute [local go_sem ↓] Go.wp_at_zero Go.wp_at_succ

theorem below_drewN {N : Nat} {a b : World} (h : Below N a b) : ∀ n, Below N a (b.drewN n) := by
  intro n
  induction n generalizing b with
  | zero => exact h
  | succ n ih => first | exact (ih h).drew | exact ih h.drew

set_option maxRecDepth 100000 in
set_option maxHeartbeats 8000000 in
theorem topProjection_any (B : Nat) (raw xs : List Int) (d0 m0 k0 : Int) (v u : Value) (w : World) (hv : Sl B 3 w v (ints raw)) (hu : Sl B 3 w u (ints xs)) (hr : ∀ z ∈ raw, In64 z) (hx : ∀ z ∈ xs, In64 z) (hd : In64 d0) (hm : In64 m0) (hk : In64 k0) :
    Calls Try.prog 4 #[v, .int .i64 d0, .int .i64 m0, .int .i64 k0, u] w fun e w' => e = .returned (.bool true) ∧ Below w.heap.size w w' := by
  obtain ⟨ao, cap, hvv, hlc, hcm⟩ := sl_open hv
  subst hvv
  obtain ⟨i0, hi0, hz0, hz1, hz2⟩ := info_parts Try.info22
  obtain ⟨bo, cbp, huu, hlb, hcb⟩ := sl_open hu
  subst huu
  have HV : Hid (Sl B 3 w (.slice ao raw.length cap) (ints raw)) := hv
  have HU : Hid (Sl B 3 w (.slice bo xs.length cbp) (ints xs)) := hu
  have HR : Hid (∀ z ∈ raw, In64 z) := hr
  have HX : Hid (∀ z ∈ xs, In64 z) := hx
  have HM : Hid (In64 m0) := hm
  have HK : Hid (In64 k0) := hk
  have HD : Hid (In64 d0) := hd
  clear hv hu hr hx hm hk hd
  obtain ⟨sv, hsv⟩ : ∃ sv, IntKind.i64.wrap ((raw.length : Int) + (xs.length : Int)) = sv := ⟨_, rfl⟩
  have hrl : raw.length ≤ 9223372036854775807 := by omega
  have hxl : xs.length ≤ 9223372036854775807 := by omega
  by_cases hb : 256 < sv
  · go_enter Try.func4, Try.ntmps4
    go_wp2
    go_ret
    exact ⟨rfl, Below.refl _ _⟩
  have hpk : ∀ (c n : Int) (w : World), In64 c → 1 ≤ n → n ≤ 100 → ∃ p : Nat, (p : Int) < n ∧ ∀ w : World, Calls Try.prog 5 #[.int .i64 c, .int .i64 n] w fun e w' => e = .returned (.int .i64 p) ∧ w' = w := fun c n w hc h1 h2 => by
    have hb := pickF_bd (c := c) (n := n) h1
    refine ⟨(pickF c n).toNat, by omega, fun w => ?_⟩
    rw [show (((pickF c n).toNat : Nat) : Int) = pickF c n by omega]
    exact pick_val c n w h1 (by omega) hc
  obtain ⟨p2, hp2, H2⟩ := hpk d0 2 w HD.out (by omega) (by omega)
  obtain ⟨p5, hp5, H5⟩ := hpk m0 5 w HM.out (by omega) (by omega)
  obtain ⟨p7, hp7, H7⟩ := hpk m0 7 w HM.out (by omega) (by omega)
  obtain ⟨d, hd⟩ : ∃ d : Nat, d = 2 + p2 := ⟨_, rfl⟩
  have hdI : 2 + (p2 : Int) = (d : Int) := by omega
  have hd2 : 2 ≤ d := by omega
  have hd3 : d ≤ 3 := by omega
  obtain ⟨k, hk, HPK⟩ := hpk k0 d w HK.out (by omega) (by omega)
  have hkd : k < d := by omega
  have HP2 : Hid (∀ w : World, Calls Try.prog 5 #[.int .i64 d0, .int .i64 2] w fun e w' => e = .returned (.int .i64 p2) ∧ w' = w) := H2
  have HP5 : Hid (∀ w : World, Calls Try.prog 5 #[.int .i64 m0, .int .i64 5] w fun e w' => e = .returned (.int .i64 p5) ∧ w' = w) := H5
  have HP7 : Hid (∀ w : World, Calls Try.prog 5 #[.int .i64 m0, .int .i64 7] w fun e w' => e = .returned (.int .i64 p7) ∧ w' = w) := H7
  have HPk : Hid (∀ w : World, Calls Try.prog 5 #[.int .i64 k0, .int .i64 d] w fun e w' => e = .returned (.int .i64 k) ∧ w' = w) := HPK
  have HCT : Hid (∀ W, Below w.heap.size w W → Calls Try.prog 10 #[.slice ao raw.length cap, .int .i64 d, .int .i64 p5, .int .i64 p7] W fun e w' => ∃ xo xc rows, e = .returned (.agg #[.int .i64 d, .slice xo rows.length xc]) ∧ Mat 0 22 3 w' (.slice xo rows.length xc) rows ∧ CutOk d rows ∧ Below W.heap.size W w') := fun W hb => by
    refine (cutOf_any B raw _ d p5 p7 W (HV.out.below hb (Nat.le_refl _)) HR.out hrl (by omega) hd3 (by omega) (by omega)).mono ?_
    rintro e w' ⟨x, rows, rfl, g1, g2, g3⟩
    obtain ⟨xo, xc, rfl, _, _⟩ := mat_open g1
    exact ⟨xo, xc, rows, rfl, g1, g2, g3⟩
  clear H2 H5 H7 HPK hpk hd
  go_enter Try.func4, Try.ntmps4
  go_wp2_with fail
  refine (HP2.out _).mono ?_
  rintro e w2 ⟨rfl, he⟩
  rw [he]
  clear he w2
  go_wp2_with fail
  refine (HP5.out _).mono ?_
  rintro e w2 ⟨rfl, he⟩
  rw [he]
  clear he w2
  go_wp2_with fail
  refine (HP7.out _).mono ?_
  rintro e w2 ⟨rfl, he⟩
  rw [he]
  clear he w2
  go_wp2_with fail
  refine (HCT.out w (Below.refl _ _)).mono ?_
  rintro e w1 ⟨xo, xc, rows, rfl, hm1, hm2, hm3⟩
  obtain ⟨R, hR⟩ : ∃ R, R = w1.heap.size := ⟨_, rfl⟩
  obtain ⟨W3, hW3⟩ : ∃ W3, W3 = w1.alloc (.cells #[.int .i64 d, .slice xo rows.length xc] 28) := ⟨_, rfl⟩
  have hb3 : Below w1.heap.size w1 W3 := by rw [hW3]; exact alloc_keep _ _
  have hs3 : W3.heap.size = R + 1 := by rw [hW3, hR]; simp
  have hk3 : W3.heap[R]? = some (.cells #[.int .i64 d, .slice xo rows.length xc] 28 (0, 0)) := by rw [hW3, hR]; exact alloc_new _ _
  have HCK : Hid (CutOk d rows) := hm2
  have HM3 : Hid (Mat 0 22 3 W3 (.slice xo rows.length xc) rows) := hm1.below hb3 (Nat.le_refl _)
  have HB3 : Hid (Below w.heap.size w W3) := hm3.trans (hb3.mono hm3.size)
  have HK3 : Hid (W3.heap[R]? = some (.cells #[.int .i64 d, .slice xo rows.length xc] 28 (0, 0))) := hk3
  have HS3 : Hid (W3.heap.size = R + 1) := hs3
  have HRR : Hid (R = w1.heap.size) := hR
  have HW3 : Hid (W3 = w1.alloc (.cells #[.int .i64 d, .slice xo rows.length xc] 28)) := hW3
  have HWO : Hid (Calls Try.prog 11 #[.agg #[.int .i64 d, .slice xo rows.length xc], .int .i64 k] W3 fun e w' => ∃ lo lc l, e = .returned (.tuple #[.slice lo l.length lc, .int .i64 0]) ∧ Mat 0 22 3 w' (.slice lo l.length lc) l ∧ Inor l (woAll rows k rows.length) ∧ Below W3.heap.size W3 w') := by
    refine (halfWithout_ok d k rows _ W3 (HM3.out.more (Nat.zero_le _)) hm2 hkd).mono ?_
    rintro e w' ⟨u, l, rfl, g1, g2, g3⟩
    have g4 := fr_mat g1
    obtain ⟨lo, lc, rfl, _, _⟩ := mat_open g4
    exact ⟨lo, lc, l, rfl, g4, g2, g3⟩
  obtain ⟨D, hD⟩ : ∃ D : Nat, d = D + 1 := ⟨d - 1, by omega⟩
  have HD : Hid (d = D + 1) := hD
  have hDI : (d : Int) - 1 = (D : Int) := by omega
  have HPT : Hid (∀ W, Below w.heap.size w W → Calls Try.prog 6 #[.slice bo xs.length cbp, .int .i64 0, .int .i64 D, .int .i64 1, .int .i64 4] W fun e w' => ∃ yo yc y, e = .returned (.slice yo 1 yc) ∧ y.length = D ∧ (∀ z ∈ y, z.natAbs ≤ 4) ∧ Mat 0 22 3 w' (.slice yo 1 yc) [y] ∧ Below W.heap.size W w') := fun W hb => by
    refine (pointsOf_new B xs _ 0 D 1 4 W (HU.out.below hb (Nat.le_refl _)) HX.out (by omega) (by omega) (by omega) (by omega) (by omega)).mono ?_
    rintro e w' ⟨x, m, rfl, g1, g2, g3, g4⟩
    rcases m with _ | ⟨y, _ | ⟨q, m⟩⟩
    · simp at g1
    · have h := g2 y (by simp)
      have g5 := fr_mat g3.fr
      obtain ⟨yo, yc, rfl, _, _⟩ := mat_open g5
      exact ⟨yo, yc, y, rfl, h.1, fun z hz => by have := h.2 z hz; omega, g5, g4⟩
    · simp at g1
  clear hm1 hm2 hm3 hb3 hs3 hk3 hR hW3 hD
  go_wp2_with fail
  rw [← HW3.out]
  refine (HPk.out _).mono ?_
  rintro e w2 ⟨rfl, he⟩
  rw [he]
  clear he w2
  have c0 : W3.cell? ⟨R, 0, none⟩ = some (.int .i64 d) := by simp [World.cell?, HK3.out]
  have c1 : W3.cell? ⟨R, 1, none⟩ = some (.slice xo rows.length xc) := by simp [World.cell?, HK3.out]
  rw [← HRR.out]
  go_wp2_with fail
  refine HWO.out.mono ?_
  rintro e w4 ⟨lo, lc, l, rfl, hl1', hl2', hl3'⟩
  have HL : Hid (Mat 0 22 3 w4 (.slice lo l.length lc) l) := hl1'
  have HIN : Hid (Inor l (woAll rows k rows.length)) := hl2'
  have HB4 : Hid (Below W3.heap.size W3 w4) := hl3'
  have hll : l.length ≤ 156 := Nat.le_trans hl2'.2 (woAll_len rows k rows.length HCK.out.n12)
  have HBW4 : Hid (Below w.heap.size w w4) := HB3.out.trans (hl3'.mono HB3.out.size)
  clear hl1' hl2' hl3' c0 c1 HWO
  go_wp2_with fail
  refine (HPT.out w4 HBW4.out).mono ?_
  rintro e w5 ⟨yo, yc, y, rfl, hy1, hy2, hy3, hy4⟩
  have HY2 : Hid (∀ z ∈ y, z.natAbs ≤ 4) := hy2
  have HY1 : Hid (y.length = D) := hy1
  have HB5 : Hid (Below W3.heap.size W3 w5) := HB4.out.trans (hy4.mono HB4.out.size)
  have HL5 : Hid (Mat 0 22 3 w5 (.slice lo l.length lc) l) := HL.out.below hy4 (Nat.le_refl _)
  obtain ⟨yb, yo', yc', yv, hys, _, hyc, hyv⟩ := mat_cell hy3 (k := 0) (by simp)
  simp only [Value.slice.injEq] at hys
  obtain ⟨rfl, -, rfl⟩ := hys
  have hyv' : Sl 0 3 w5 yv (ints y) := hyv
  obtain ⟨ya, yd, rfl, _, _⟩ := sl_open hyv'
  have HY : Hid (Sl 0 3 w5 (.slice ya y.length yd) (ints y)) := hyv'
  have HBW5 : Hid (Below w.heap.size w w5) := HBW4.out.trans (hy4.mono HBW4.out.size)
  rw [Nat.add_zero] at hyc
  clear hy1 hy2 hy3 hy4 hyv hyv' HL HB4 HBW4 HPT
  go_wp2
  go_loopw [15, 16] (fun x i wr => ∃ j : Nat, j ≤ l.length ∧ i = .int .i64 j ∧ x = .bool (inB l y j) ∧ Below w5.heap.size w5 wr) (fun _ i _ => l.length - (intOf i).toNat)
  case atStart => exact ⟨0, Nat.zero_le _, rfl, rfl, Below.refl _ _⟩
  case round =>
    obtain ⟨j, hj, rfl, rfl, hbl⟩ := hrel
    obtain ⟨wa, rfl⟩ : ∃ wa, wa = wr := ⟨wr, rfl⟩
    have HBA : Hid (Below w5.heap.size w5 wa) := hbl
    clear hbl hyc
    by_cases hlt : j < l.length
    · obtain ⟨r, hr⟩ : ∃ r, r = l.getD j [] := ⟨_, rfl⟩
      have hrm : r ∈ l := by rw [hr, List.getD_eq_getElem?_getD, List.getElem?_eq_getElem hlt]; exact List.getElem_mem _
      have hrs := wo_small HCK.out hkd ((HIN.out.1 r).1 hrm)
      obtain ⟨lb, lo', lc', rv, hls, _, hlcell, hrv⟩ := mat_cell (HL5.out.below HBA.out (Nat.le_refl _)) hlt
      simp only [Value.slice.injEq] at hls
      obtain ⟨rfl, -, rfl⟩ := hls
      rw [← hr] at hrv
      obtain ⟨rb, ro, rc, hrvs, hrc, hrD⟩ := sl_cell hrv (k := D) (by have := HD.out; omega)
      rw [hrs.1] at hrvs hrc
      subst hrvs
      obtain ⟨T, hT⟩ : ∃ T, T = dotL (r.take D) y := ⟨_, rfl⟩
      obtain ⟨q, hq⟩ : ∃ q, q = r.getD D 0 := ⟨_, rfl⟩
      rw [← hq] at hrD
      have HDT : Hid (∀ n, Calls Try.prog 12 #[.slice (some ⟨rb, ro, none⟩) D rc, .slice ya y.length yd] (wa.drewN n) fun e w' => e = .returned (.int .i64 T) ∧ ∃ k, w' = (wa.drewN n).drewN k) := fun n => by
        rw [hT]
        have hD := HD.out
        have hv1 : Sl 0 3 wa (.slice (some ⟨rb, ro, none⟩) r.length rc) (ints r) := by rw [hrs.1]; exact hrv
        have h1 : Sl 0 3 wa (.slice (some ⟨rb, ro, none⟩) D rc) (ints (r.take D)) := Sl.takeN hv1 (by omega)
        refine dotR_any 0 (r.take D) y _ _ _ (h1.drewN n) ((HY.out.below HBA.out (Nat.le_refl _)).drewN n) ⟨?_, ?_, fun z hz => ?_, fun z hz => ?_⟩
        · rw [HY1.out]; simp; omega
        · simp; omega
        · have := hrs.2 z (List.mem_of_mem_take hz); omega
        · have := HY2.out z hz; omega
      have HSU : Hid (inB l y (j + 1) = (inB l y j && decide (T ≤ q))) := by
        show _ = _
        rw [inB_succ hlt, ← hr, slk_dot (D := D) (by rw [hrs.1]; exact HD.out), hT, hq]
        congr 1
        exact decide_eq_decide.2 (by omega)
      have hjI : (j : Int) < (l.length : Int) := by omega
      have hjI0 : (0 : Int) ≤ (j : Int) := by omega
      have hDJ : (D : Int) < (d : Int) := by omega
      have hD0 : (0 : Int) ≤ (D : Int) := by omega
      have hDc : (D : Int) ≤ (rc : Int) := by omega
      clear hr hrm hrs hrv hT hq
      cases hin : inB l y j with
      | true =>
        rw [hin] at HSU
        have HSV : Hid (inB l y (j + 1) = decide (T ≤ q)) := by show _ = _; rw [HSU.out]; rfl
        clear hin HSU
        go_wp2_with fail
        go_quiet ((go_at_call 12; exact Calls.quiet_of (w := wa) (HDT.out _)))
        go_wp2
        go_roundw
        case rel => exact ⟨j + 1, by omega, by go_num, by rw [HSV.out], by first | exact below_drewN HBA.out _ | exact (below_drewN HBA.out _).drew | exact HBA.out.drew⟩
        case measure => simp [intOf]; omega
      | false =>
        rw [hin] at HSU
        have HSV : Hid (inB l y (j + 1) = false) := by show _ = _; rw [HSU.out]; rfl
        clear hin HSU
        go_wp2_with fail
        go_quiet (fail)
        go_wp2
        go_roundw
        case rel => exact ⟨j + 1, by omega, by go_num, by rw [HSV.out], by first | exact below_drewN HBA.out _ | exact (below_drewN HBA.out _).drew | exact HBA.out.drew⟩
        case measure => simp [intOf]; omega
    · have hje : j = l.length := by omega
      subst hje
      obtain ⟨ib, hib⟩ : ∃ ib, ib = inB l y l.length := ⟨_, rfl⟩
      rw [← hib]
      have HIB : Hid (ib = inB l y l.length) := hib
      obtain ⟨LB, hLB⟩ : ∃ LB, LB = wa.heap.size := ⟨_, rfl⟩
      have HLB : Hid (LB = wa.heap.size) := hLB
      have HRD : Hid (∀ wr, Below LB wa wr → wr.cell? ⟨R, 1, none⟩ = some (.slice xo rows.length xc) ∧ Mat 0 22 3 wr (.slice xo rows.length xc) rows ∧ Sl 0 3 wr (.slice ya y.length yd) (ints y)) := fun wr hb => by
        rw [hLB] at hb
        have hR3 := HS3.out
        have h5 := HB5.out.size
        have ha := HBA.out.size
        have hblk : wr.heap[R]? = some (.cells #[.int .i64 d, .slice xo rows.length xc] 28 (0, 0)) := ((hb.block R (by omega)).trans (HBA.out.block R (by omega))).trans ((HB5.out.block R (by omega)).trans HK3.out)
        exact ⟨by simp [World.cell?, hblk], ((HM3.out.below HB5.out (Nat.le_refl _)).below HBA.out (Nat.le_refl _)).below hb (Nat.le_refl _), (HY.out.below HBA.out (Nat.le_refl _)).below hb (Nat.le_refl _)⟩
      have HBWA : Hid (Below w.heap.size w wa) := HBW5.out.trans (HBA.out.mono HBW5.out.size)
      have HC0 : Hid (CS LB LB 1 wa (wa.alloc (.cells #[.int .i64 1, .slice none 0 0] 28)) (.slice none 0 0) ((lineL rows k y).take 0)) := ⟨by rw [hLB]; exact alloc_new _ _, FrN.nil _ _, by rw [hLB]; exact alloc_keep _ _, Nat.le_refl _⟩
      have HN12 : Hid (rows.length ≤ 12) := HCK.out.n12
      have hr12 := HN12.out
      clear hib hlt hj hLB
      go_wp2
      rw [← HLB.out]
      go_loopw [18] (fun i wr => ∃ (n : Nat) (x : Value), n ≤ rows.length ∧ i = .int .i64 n ∧ CS LB LB 1 wa wr x ((lineL rows k y).take n) ∧ RowsOk 1 n 20 ((lineL rows k y).take n)) (fun i _ => rows.length - (intOf i).toNat)
      case atStart => exact ⟨0, _, Nat.zero_le _, rfl, HC0.out, ⟨rfl, fun i hi => absurd hi (by simp)⟩⟩
      case round =>
        clear HC0
        obtain ⟨n, x, hn, rfl, hcs, hro⟩ := hrel
        obtain ⟨wb, rfl⟩ : ∃ wb, wb = wr := ⟨wr, rfl⟩
        have HCS : Hid (CS LB LB 1 wa wb x ((lineL rows k y).take n)) := hcs
        have HRO : Hid (RowsOk 1 n 20 ((lineL rows k y).take n)) := hro
        obtain ⟨hRc, hRm, hYs⟩ := HRD.out wb hcs.bel
        have HYS : Hid (Sl 0 3 wb (.slice ya y.length yd) (ints y)) := hYs
        obtain ⟨vs, g1, g2, g3⟩ := hcs.rows
        have hml := hro.num
        rw [hml] at g2
        obtain ⟨zo, zc, hzv⟩ := owns_form g2
        subst hzv
        have hc1 : wb.cell? ⟨LB, 1, none⟩ = some (.slice zo n zc) := by simp [World.cell?, hcs.cut]
        have hc0 : wb.cell? ⟨LB, 0, none⟩ = some (.int .i64 1) := by simp [World.cell?, hcs.cut]
        clear hcs hro hYs g1 g2 g3 hml vs
        by_cases hlt : n < rows.length
        · obtain ⟨r, hr⟩ : ∃ r, r = rows.getD n [] := ⟨_, rfl⟩
          have hrm : r ∈ rows := by rw [hr, List.getD_eq_getElem?_getD, List.getElem?_eq_getElem hlt]; exact List.getElem_mem _
          have HRL : Hid (r.length = d + 1) := HCK.out.len r hrm
          have HRB : Hid (∀ z ∈ r, z.natAbs ≤ 20) := HCK.out.bd r hrm
          have HTK : Hid ((lineL rows k y).take (n + 1) = (lineL rows k y).take n ++ [[r.getD k 0, slk y (dropK r k)]]) := by show _ = _; rw [lineL_take hlt, ← hr]
          obtain ⟨b', o', c', rv, hs', _, hrcell, hrv⟩ := mat_cell hRm hlt
          simp only [Value.slice.injEq] at hs'
          obtain ⟨rfl, -, rfl⟩ := hs'
          rw [← hr] at hrv
          obtain ⟨rb, ro, rc, hrs, hrc, hrd⟩ := sl_cell hrv (k := d) (by rw [HRL.out]; omega)
          rw [HRL.out] at hrs hrc
          subst hrs
          have HRV : Hid (Sl 0 3 wb (.slice (some ⟨rb, ro, none⟩) (d + 1) rc) (ints r)) := hrv
          have hP0 : r.getD d 0 = partL d k r y (atF k 0) := by
            show _ = r.getD d 0 - Lin.sumN (atF k 0) _
            rw [show atF k 0 = 0 from rfl]
            show _ = _ - 0
            omega
          rw [hP0] at hrd
          have hnI : (n : Int) < (rows.length : Int) := by omega
          have hnI0 : (0 : Int) ≤ (n : Int) := by omega
          have hdI0 : (0 : Int) ≤ (d : Int) := by omega
          have hdJ : (d : Int) < (d : Int) + 1 := by omega
          clear hr hrm hrv hP0 hRm
          go_wp2
          go_loopw [19, 20, 21] (fun p a i wr => ∃ j : Nat, j ≤ d ∧ i = .int .i64 j ∧ a = .int .i64 (atF k j) ∧ p = .int .i64 (partL d k r y (atF k j)) ∧ ∃ t, wr = wb.drewN t) (fun _ _ i _ => d - (intOf i).toNat)
          case atStart => exact ⟨0, Nat.zero_le _, rfl, rfl, rfl, 0, rfl⟩
          case round =>
            obtain ⟨j, hj, rfl, rfl, rfl, t, rfl⟩ := hrel
            by_cases hjd : j < d
            · by_cases hjk : j = k
              · subst hjk
                have HAT : Hid (atF j (j + 1) = atF j j) := part_same
                go_wp2
                go_roundw
                case rel => exact ⟨j + 1, by omega, by go_num, by rw [HAT.out], by rw [HAT.out], t, rfl⟩
                case measure => simp [intOf]; omega
              · have hst := part_step (d := d) (k := k) (j := j) (r := r) (y := y) (by rw [HRL.out]; omega) hjk
                have hAD : atF k j < D := by have := HD.out; unfold atF; split <;> omega
                have hb1 := part_bd (d := d) (k := k) HRB.out HY2.out (atF k j)
                have hb2 := part_bd (d := d) (k := k) HRB.out HY2.out (atF k j + 1)
                have hD3 : D ≤ 2 := by have := HD.out; omega
                obtain ⟨A, hA⟩ : ∃ A, A = atF k j := ⟨_, rfl⟩
                rw [← hA] at hst hAD hb1 hb2
                rw [← hA]
                have HA1 : Hid (atF k (j + 1) = A + 1) := hst.1
                obtain ⟨P, hP⟩ : ∃ P, P = partL d k r y A := ⟨_, rfl⟩
                rw [← hP] at hst hb1
                rw [← hP]
                obtain ⟨q, hq⟩ : ∃ q, q = r.getD j 0 := ⟨_, rfl⟩
                obtain ⟨s, hs⟩ : ∃ s, s = y.getD A 0 := ⟨_, rfl⟩
                rw [← hq, ← hs] at hst
                have HA2 : Hid (partL d k r y (A + 1) = P - q * s) := hst.2
                have hqs : (q * s).natAbs ≤ 400 := by
                  have m := mul20 (a := q) (b := s) (by rw [hq]; exact getD_bd HRB.out) (by rw [hs]; have := getD_bd (k := A) HY2.out; omega)
                  omega
                rw [hst.2] at hb2
                obtain ⟨rb', ro', rc', hrs', _, hrj⟩ := sl_cell HRV.out (k := j) (by rw [HRL.out]; omega)
                simp only [Value.slice.injEq, Option.some.injEq, Addr.mk.injEq] at hrs'
                obtain ⟨⟨rfl, rfl, -⟩, -, -⟩ := hrs'
                obtain ⟨yb2, yo2, yc2, hys2, _, hyj⟩ := sl_cell HYS.out (k := A) (by rw [HY1.out]; exact hAD)
                simp only [Value.slice.injEq] at hys2
                obtain ⟨rfl, -, rfl⟩ := hys2
                rw [← hq] at hrj
                rw [← hs] at hyj
                have hw1 : IntKind.i64.wrap (q * s) = q * s := by rw [IntKind.wrap_i64]; omega
                have hw2 : IntKind.i64.wrap (P - q * s) = P - q * s := by rw [IntKind.wrap_i64]; omega
                have hw3 : wrap64 (q * s) = q * s := IntWalk.wrap64_in _ ⟨by omega, by omega⟩
                have hw4 : wrap64 (P - q * s) = P - q * s := IntWalk.wrap64_in _ ⟨by omega, by omega⟩
                have hjI0 : (0 : Int) ≤ (j : Int) := by omega
                have hjI : (j : Int) < (d : Int) + 1 := by omega
                have hAI0 : (0 : Int) ≤ (A : Int) := by omega
                have hAI : (A : Int) < (y.length : Int) := by have := HY1.out; omega
                clear hst hb1 hb2 hq hs hqs hA hP
                go_wp2_with fail
                go_quiet (fail)
                go_wp2
                go_roundw
                case rel => exact ⟨j + 1, by omega, by go_num, by rw [HA1.out]; go_num, by rw [HA1.out, HA2.out], _, rfl⟩
                case measure => simp [intOf]; omega
            · have hje : d = j := by omega
              subst hje
              obtain ⟨wc, hwc⟩ : ∃ wc, wc = wb.drewN t := ⟨_, rfl⟩
              have HWC : Hid (wc = wb.drewN t) := hwc
              have HPE : Hid (partL d k r y (atF k d) = slk y (dropK r k)) := part_end HRL.out hkd
              obtain ⟨P, hP⟩ : ∃ P, P = slk y (dropK r k) := ⟨_, rfl⟩
              rw [HPE.out, ← hP, ← hwc]
              rw [← hP] at HTK
              obtain ⟨K, hK⟩ : ∃ K, K = r.getD k 0 := ⟨_, rfl⟩
              rw [← hK] at HTK
              have hKb : K.natAbs ≤ 20 := by rw [hK]; exact getD_bd HRB.out
              have HCC : Hid (CS LB LB 1 wa wc (.slice zo n zc) ((lineL rows k y).take n)) := by rw [hwc]; exact ⟨HCS.out.cut, HCS.out.rows, below_drewN HCS.out.bel t, HCS.out.nR⟩
              have e1 : wc.cell? ⟨R, 1, none⟩ = some (.slice (some ⟨b', o', none⟩) rows.length xc) := by rw [hwc]; exact hRc
              have e2 : wc.cell? ⟨b', o' + n, none⟩ = some (.slice (some ⟨rb, ro, none⟩) (d + 1) rc) := by rw [hwc]; exact hrcell
              have e3 : wc.cell? ⟨rb, ro + k, none⟩ = some (.int .i64 K) := by
                obtain ⟨rb', ro', rc', hrs', _, hrk⟩ := sl_cell HRV.out (k := k) (by rw [HRL.out]; omega)
                simp only [Value.slice.injEq, Option.some.injEq, Addr.mk.injEq] at hrs'
                obtain ⟨⟨rfl, rfl, -⟩, -, -⟩ := hrs'
                rw [hwc, hK]
                exact hrk
              have e4 : wc.cell? ⟨LB, 1, none⟩ = some (.slice zo n zc) := by rw [hwc]; exact hc1
              have hkI0 : (0 : Int) ≤ (k : Int) := by omega
              have hkI : (k : Int) < (d : Int) + 1 := by omega
              clear hRc hrcell hc1 hrd hwc hP hK hjd hj
              obtain ⟨Wm, hWm⟩ : ∃ Wm, Wm = wc.alloc (.cells #[.int .i64 K, .int .i64 P] 3) := ⟨_, rfl⟩
              have hNw : LB ≤ wc.heap.size := by have := HCC.out.bel.size; rw [← HLB.out] at this; exact this
              have hbm : Below wc.heap.size wc Wm := by rw [hWm]; exact alloc_keep _ _
              have hsm : Wm.heap.size = wc.heap.size + 1 := by rw [hWm]; simp
              have HCM : Hid (CS LB LB 1 wa Wm (.slice zo n zc) ((lineL rows k y).take n)) := ⟨(hbm.block LB (Array.getElem?_eq_some_iff.1 HCC.out.cut).1).trans HCC.out.cut, HCC.out.rows.below hbm (Nat.le_refl _), HCC.out.bel.trans (hbm.mono hNw), HCC.out.nR⟩
              have HXK : Hid (SlN LB Wm (.slice (some ⟨wc.heap.size, 0, none⟩) 2 2) (ints [K, P])) := by
                refine ⟨?_, fun b o n c e => by simp only [Value.slice.injEq, Option.some.injEq, Addr.mk.injEq] at e; omega⟩
                rw [hWm]
                exact sl_two (alloc_new _ _)
              obtain ⟨vs2, g1, g2, g3⟩ := HCM.out.rows
              have hln := HRO.out.num
              have G2 : Hid (Wm.ownsRow LB 22 1 (.slice zo n zc) n vs2) := by rw [hln] at g2; exact g2
              have HPU2 : Hid (∀ v' w6, w6.ownsRow LB 22 1 v' (n + 1) (vs2 ++ [.slice (some ⟨wc.heap.size, 0, none⟩) 2 2]) → (Wm.alloc (.cells #[.slice (some ⟨wc.heap.size, 0, none⟩) 2 2] 22)).drew.grownBy w6 (Value.slice zo n zc).ownBlock →
                  w6.cell? ⟨LB, 1, none⟩ = some (.slice zo n zc) ∧ w6.frozen? ⟨LB, 1, none⟩ = false ∧ CS LB LB 1 wa (w6.setCell ⟨LB, 1, none⟩ v') v' ((lineL rows k y).take (n + 1))) := fun v' w6 ho hg => by
                have hba := alloc_keep Wm (.cells #[.slice (some ⟨wc.heap.size, 0, none⟩) 2 2] 22)
                have hNq : LB ≤ Wm.heap.size := by omega
                have h0 : CS LB LB 1 wa (Wm.alloc (.cells #[.slice (some ⟨wc.heap.size, 0, none⟩) 2 2] 22)).drew (.slice zo n zc) ((lineL rows k y).take n) := ⟨(hba.block LB (Array.getElem?_eq_some_iff.1 HCM.out.cut).1).trans HCM.out.cut, HCM.out.rows.alloc _, (HCM.out.bel.trans (hba.mono hNq)).drew, HCM.out.nR⟩
                have hp := h0.push (by show LB ≤ (Wm.alloc _).heap.size; simp; omega) g1 (g2.alloc _) (fun i hi => (g3 i hi).alloc _) (HXK.out.alloc _) (by rw [hln]; exact ho) hg
                rw [HTK.out]
                exact ⟨by simp [World.cell?, hp.1], by simp [World.frozen?, hp.1], hp.2⟩
              have HNEW2 : Hid (∀ j u, [Value.slice (some ⟨wc.heap.size, 0, none⟩) 2 2][j]? = some u → (Wm.alloc (.cells #[.slice (some ⟨wc.heap.size, 0, none⟩) 2 2] 22)).drew.cell? ((⟨wc.heap.size + 1, 0, none⟩ : Addr).add j) = some u) := by
                rw [← hsm]; exact one_new _ _ _
              have HNS2 : Hid (LB ≤ (Wm.alloc (.cells #[.slice (some ⟨wc.heap.size, 0, none⟩) 2 2] 22)).drew.heap.size) := by
                show LB ≤ (Wm.alloc _).heap.size
                simp; omega
              have htm : n + 1 ≤ maxLen := by unfold maxLen; omega
              have HG3 : Hid ((Wm.alloc (.cells #[.slice (some ⟨wc.heap.size, 0, none⟩) 2 2] 22)).drew.ownsRow LB 22 1 (.slice zo n zc) n vs2) := G2.out.alloc _
              have n1 := World.new_ne wc _ e1
              have n2 := World.new_ne wc _ e2
              have n3 := World.new_ne wc _ e3
              have n4 := World.new_ne wc _ e4
              have e5 : (wc.alloc (.cells #[.int .i64 K, .int .i64 P] 3)).cell? ⟨LB, 1, none⟩ = some (.slice zo n zc) := ((alloc_keep wc _).cell (p := ⟨LB, 1, none⟩) (lt_of_cell e4)).trans e4
              have e6 : ((wc.alloc (.cells #[.int .i64 K, .int .i64 P] 3)).alloc (.cells #[.slice (some ⟨wc.heap.size, 0, none⟩) 2 2] 22)).cell? ⟨LB, 1, none⟩ = some (.slice zo n zc) := ((alloc_keep _ _).cell (p := ⟨LB, 1, none⟩) (lt_of_cell e5)).trans e5
              rw [hWm] at HG3 HPU2 HNEW2 HNS2
              clear g1 g2 g3 hln hbm hsm HXK hWm
              go_wp2_with fail
              go_region_law (refine step_append_own (o := { dst := some 144, op := _, type := _, pos := _, after := _, guard := _ }) (by rfl) _ _ 25 (by rfl) LB 22 i0 (.slice none 0 0) 1 24 Try.underlying25 hi0 hz0 hz1 hz2 rfl (by decide) _ _ _ (by rfl) HG3.out ⟨wc.heap.size + 1, 0, none⟩ 1 1 [.slice (some ⟨wc.heap.size, 0, none⟩) 2 2] (by rfl) rfl HNEW2.out (one_slice _ _ _) htm (by omega) HNS2.out ?_; intro v' w6 ho hg; obtain ⟨vo, vc, hv'⟩ := owns_form ho; subst hv'; have FF : Hid _ := HPU2.out _ w6 ho hg; have LS1 := FF.out.1; have LS2 := FF.out.2.1; clear ho hg)
              all_goals
                have HNX : Hid (CS LB LB 1 wa (w6.setCell ⟨LB, 1, none⟩ (.slice vo (n + 1) vc)) (.slice vo (n + 1) vc) ((lineL rows k y).take (n + 1))) := FF.out.2.2
                have HBZ : Hid (Below w.heap.size w (w6.setCell ⟨LB, 1, none⟩ (.slice vo (n + 1) vc))) := HBWA.out.trans (HNX.out.bel.mono (by rw [HLB.out]; exact HBWA.out.size))
                clear FF LS1 LS2 e1 e2 e3 e4 e5 e6 n1 n2 n3 n4
                cases hfar : farB P 20 with
                | true =>
                  have HFA : Hid (∀ w : World, Calls Try.prog 13 #[.int .i64 P, .int .i64 20] w fun e w' => e = .returned (.bool true) ∧ w' = w) := fun w => by rw [← hfar]; exact far_any P 20 w (by omega) (by omega)
                  clear hfar
                  go_wp2_with (go_at_call 13; refine (HFA.out _).mono ?_; rintro e w7 ⟨rfl, he⟩; rw [he]; clear he)
                  go_ret
                  exact ⟨rfl, HBZ.out⟩
                | false =>
                  have HFA : Hid (∀ w : World, Calls Try.prog 13 #[.int .i64 P, .int .i64 20] w fun e w' => e = .returned (.bool false) ∧ w' = w) := fun w => by rw [← hfar]; exact far_any P 20 w (by omega) (by omega)
                  have HRN : Hid (RowsOk 1 (n + 1) 20 ((lineL rows k y).take (n + 1))) := by
                    have hPb : P.natAbs ≤ 20 := by simp [farB] at hfar; omega
                    have hnum := HRO.out.num
                    refine ⟨by rw [HTK.out, List.length_append, hnum]; rfl, fun i hi => ?_⟩
                    rw [HTK.out] at hi ⊢
                    by_cases hil : i < ((lineL rows k y).take n).length
                    · rw [getD_left hil]; exact HRO.out.row i hil
                    · have hie : i = ((lineL rows k y).take n).length := by simp only [List.length_append, List.length_singleton] at hi; omega
                      rw [getD_right (by omega), hie, Nat.sub_self]
                      refine ⟨rfl, fun z hz => ?_⟩
                      simp only [List.getD_cons_zero, List.mem_cons, List.not_mem_nil, or_false] at hz
                      rcases hz with rfl | rfl
                      · exact hKb
                      · exact hPb
                  clear hfar
                  go_wp2_with (go_at_call 13; refine (HFA.out _).mono ?_; rintro e w7 ⟨rfl, he⟩; rw [he]; clear he)
                  go_roundw
                  case rel => exact ⟨n + 1, _, by omega, by go_num, HNX.out, HRN.out⟩
                  case measure => simp [intOf]; omega
        · have hne : rows.length = n := by omega
          subst hne
          have HTA : Hid ((lineL rows k y).take rows.length = lineL rows k y) := List.take_of_length_le (by simp [lineL])
          obtain ⟨eb, heb⟩ : ∃ eb, eb = empB 1 (lineL rows k y) := ⟨_, rfl⟩
          have HEM : Hid (Calls Try.prog 8 #[.agg #[.int .i64 1, .slice zo rows.length zc]] wb fun e w' => e = .returned (.tuple #[.bool eb, .int .i64 0]) ∧ Below wb.heap.size wb w') := by
            have h1 := fr_mat HCS.out.rows.fr
            have h2 := HRO.out
            rw [HTA.out] at h1 h2
            rw [heb]
            exact empty_ok 1 (lineL rows k y) _ wb (h1.more (Nat.zero_le _)) (h2.cut (by omega) (by omega) hr12)
          have hie : ib = !eb := by rw [HIB.out, heb]; exact in_line HCK.out hkd HIN.out
          subst hie
          have HBB : Hid (Below w.heap.size w wb) := HBWA.out.trans (HCS.out.bel.mono (by rw [HLB.out]; exact HBWA.out.size))
          clear heb HIB
          go_wp2_with fail
          refine HEM.out.mono ?_
          rintro e w7 ⟨rfl, hb7⟩
          have HB7 : Hid (Below w.heap.size w w7) := HBB.out.trans (hb7.mono HBB.out.size)
          clear hb7 HEM
          go_wp2_with fail
          refine (empties_any w7).mono ?_
          rintro e w8 ⟨rfl, hb8⟩
          have HB8 : Hid (Below w.heap.size w w8) := HB7.out.trans (hb8.mono HB7.out.size)
          clear hb8
          go_wp2
          go_ret
          exact ⟨rfl, HB8.out⟩

end Go.Proofs.Ytfolfhodicjcaaa
