import Derived.Test.YtjpmhgidckmdoaaChA
import Derived.Test.YtjpmhgidckmdoaaCnA
import Derived.Test.YtjpmhgidckmdoaaCnB
import Derived.Test.YtjpmhgidckmdoaaCnC
import Derived.Test.YtjpmhgidckmdoaaWn7
import Derived.Test.YtjpmhgidckmdoaaBr3
import Derived.Test.YtjpmhgidckmdoaaWm4
import Derived.Test.YtjpmhgidckmdoaaTwA
/- All squares of names in every order: heights, degrees, lengths. -/
namespace Go.Proofs.Ytjpmhgidckmdoaa

theorem chv_all {ps : List (UInt8 × UInt8)} (h : ps ∈ nmL) {o : List Int} (ho : o ∈ ords (mkL ps).length (mkL ps).length []) : Chv (mkL ps).length (pmM o (mkL ps)) (ohL (abL (mkL ps))) (abL (mkL ps)).length := by
  refine ⟨?_, dg_all ps h⟩
  obtain ⟨i, hi, hp⟩ := List.mem_iff_getElem.1 h
  have hl := nm_len
  by_cases h1 : i < 9
  · exact ch_p1 ps (mem_part hi hp (by omega) (by omega)) o ho
  by_cases h2 : i < 11
  · exact ch_p2 ps (mem_part hi hp (by omega) (by omega)) o ho
  by_cases h3 : i < 20
  · exact ch_p3 ps (mem_part hi hp (by omega) (by omega)) o ho
  by_cases h4 : i < 28
  · exact ch_p4 ps (mem_part hi hp (by omega) (by omega)) o ho
  by_cases h5 : i < 34
  · exact ch_p5 ps (mem_part hi hp (by omega) (by omega)) o ho
  exact ch_p6 ps (mem_part hi hp (by omega) (by omega)) o ho

/-- The longest is as long as there are roots. -/
theorem long_len {n : Nat} {c R : List (List Int)} (h : Gda n c R) {x : List Nat} (hx : Lt c x) (ex : tak c x (ones c.length) = ngL (ones c.length)) : (rdW c x).length = R.length := by
  rw [(rd_all h hx).1, ex]
  unfold nB
  rw [List.countP_eq_length]
  intro b hb
  have h1 := h.rt.pos b hb
  have e : pr c.length (ngL (ones c.length)) b = -(sm c.length fun k => b.getD k 0) := by
    unfold pr
    rw [← sm_ng]
    refine sm_congr _ fun k hk => ?_
    rw [ngL_get, ones_at hk, Int.neg_mul, Int.one_mul]
  rw [e]
  exact decide_eq_true (by omega)

end Go.Proofs.Ytjpmhgidckmdoaa

/- TopChevalley: the law's walk. -/
namespace Go.Proofs.Ytjpmhgidckmdoaa
open Go.RowKit
attribute [local go_sem ↓] Go.wp_at_zero Go.wp_at_succ

set_option maxRecDepth 100000 in
set_option maxHeartbeats 3200000 in
theorem topChevalley_any (d0 m0 : Int) (w : World) (hd : In64 d0) (hm : In64 m0) :
    Calls Try.prog 3 #[.int .i64 d0, .int .i64 m0] w fun e w' => e = .returned (.bool true) ∧ Below w.heap.size w w' := by
  have HRF := rootsFrom_any d0 m0 4 w hd hm (by decide) (by decide)
  clear hd hm
  go_enter Try.func3, Try.ntmps3
  go_wp2_with fail
  refine HRF.mono ?_
  rintro e w1 ⟨x, ps, o, rfl, ⟨hnm, hoo⟩, hfr, hb1⟩
  have hgd := gd_all hnm hoo
  have hcv := chv_all hnm hoo
  have hpr : (posR (pmM o (mkL ps))).length = (abL (mkL ps)).length := hcv.ch.2.2.1
  generalize (mkL ps).length = n at hgd hcv
  generalize posR (pmM o (mkL ps)) = R at hgd hpr
  generalize ohL (abL (mkL ps)) = M at hcv
  generalize (abL (mkL ps)).length = N at hcv hpr
  generalize pmM o (mkL ps) = c at *
  have HG : Hid (Gda n c R) := hgd
  have HX : Hid (Chv n c M N) := hcv
  have HRN : Hid (R.length = N) := hpr
  have hcl : c.length = n := hgd.g.sq.len
  have hn1 := hgd.g.n1
  have hn4 := hgd.g.sq.n4
  have hN24 : N ≤ 24 := by have := hgd.rl; omega
  have HB1 : Hid (Below w.heap.size w w1) := hb1
  have HM1 : Hid (Mat w1.heap.size 24 3 w1 x c) := fr_mat hfr
  obtain ⟨co, cc, hxv⟩ : ∃ co cc, x = .slice co n cc := by
    obtain ⟨vs, g1, g2, g3⟩ := hfr
    obtain ⟨a, b, h⟩ := owns_form g2
    exact ⟨a, b, by rw [← hcl]; exact h⟩
  subst hxv
  have HMA : Hid (∀ W, Below w1.heap.size w1 W → Mat W.heap.size 24 3 W (.slice co n cc) c) := fun W h => (HM1.out.below h (Nat.le_refl _)).any (Nat.le_refl _)
  obtain ⟨x0, hx0, ex0⟩ := long_some HG.out.rt
  have hll := long_len HG.out hx0 ex0
  rw [hpr] at hll
  have D1 := lengths_any n c M N (.slice co n cc) w1 HG.out.g HX.out (HMA.out w1 (Below.refl _ _))
  have HD2 : Hid (∀ W, Below w1.heap.size w1 W → Calls Try.prog 6 #[.slice co n cc] W fun e w' => ∃ u, e = .returned (.tuple #[u, .int .i64 0]) ∧ w'.ownsRow W.heap.size 3 1 u n (ints (dgL n M)) ∧ Below W.heap.size W w') := fun W h => degrees_any n c M N _ W HG.out.g HX.out (HMA.out W h)
  have HD3 : Hid (∀ W, Below w1.heap.size w1 W → Calls Try.prog 7 #[.slice co n cc] W fun e w' => ∃ u, e = .returned (.tuple #[u, .int .i64 0]) ∧ w'.ownsRow W.heap.size 3 1 u N (ints (natsI (rdW c x0))) ∧ Below W.heap.size W w') := fun W h => by
    have := longest_any n c R x0 _ W HG.out hx0 ex0 (HMA.out W h)
    rw [hll] at this
    exact this
  have HD4 : Hid (∀ W, Below w1.heap.size w1 W → Calls Try.prog 8 #[.slice co n cc] W fun e w' => ∃ uo uc, e = .returned (.tuple #[.slice uo N uc, .int .i64 0]) ∧ Below W.heap.size W w') := fun W h => by
    refine (positive_any n c _ W HG.out.g (HMA.out W h)).mono ?_
    rintro e w' ⟨u, rfl, m, hp, _, hf, hb⟩
    obtain ⟨vs, g1, g2, g3⟩ := hf
    obtain ⟨a, b, h⟩ := owns_form g2
    have e : m.length = N := by rw [hp.length_eq]; exact HX.out.ch.2.1
    rw [e] at h
    exact ⟨a, b, by rw [h], hb⟩
  obtain ⟨_, _, hD1, hD2, hD3, hD4, hD5⟩ := hcv.dg
  have hdl := dgL_len n M
  have HDL : Hid ((dgL n M).length = n) := hdl
  have HLL : Hid ((lnL (dgL n M)).length = N + 1) := hD3
  have HPB : Hid (∀ k, k ≤ n → 0 ≤ pdL ((dgL n M).take k) ∧ pdL ((dgL n M).take k) ≤ 2000) := fun k hk => by
    obtain ⟨_, _, _, h4, h5⟩ := hD2 k (by omega)
    exact ⟨h4, h5⟩
  have HPS : Hid (∀ k, k < n → pdL ((dgL n M).take (k + 1)) = pdL ((dgL n M).take k) * (dgL n M).getD k 0) := fun k hk => pdL_snoc _ k (by rw [hdl]; exact hk)
  have HPA : Hid (∀ i, i < N + 1 → (lnL (dgL n M)).getD i 0 = (lnL (dgL n M)).getD (N - i) 0 ∧ 1 ≤ (lnL (dgL n M)).getD i 0) := fun i hi => by
    have := hD4 i (by rw [hD3]; exact hi)
    rw [hD3] at this
    exact this
  have HSE : Hid ((lnL (dgL n M)).sum = pdL (dgL n M)) := hD5
  have HLB : Hid (∀ z ∈ lnL (dgL n M), z.natAbs ≤ 1000000000) := fun z hz => by
    obtain ⟨_, _, h3, _⟩ := hD2 n (by omega)
    rw [List.take_of_length_le (by omega)] at h3
    have := h3 z hz
    omega
  clear HRF hnm hoo hfr hgd hcv hpr hcl hb1 hx0 ex0 hll hD1 hD2 hD3 hD4 hD5 hdl HMA HM1 HX HG HRN
  generalize lnL (dgL n M) = L at *
  generalize dgL n M = D at *
  generalize natsI (rdW c x0) = X at *
  go_wp2_with fail
  refine D1.mono ?_
  rintro e w2 ⟨lv, rfl, hol, hb2⟩
  obtain ⟨lo, lc, hlv⟩ := owns_form hol
  subst hlv
  have HL2 : Hid (Sl 0 3 w2 (.slice lo (N + 1) lc) (ints L)) := Sl.own hol
  have HB2 : Hid (Below w1.heap.size w1 w2) := hb2
  have D2 := HD2.out w2 hb2
  clear hol hb2 D1 HD2
  go_wp2_with fail
  refine D2.mono ?_
  rintro e w3 ⟨dv, rfl, hod, hb3⟩
  obtain ⟨dO, dc, hdv⟩ := owns_form hod
  subst hdv
  have HDD3 : Hid (Sl 0 3 w3 (.slice dO n dc) (ints D)) := Sl.own hod
  have HL3 : Hid (Sl 0 3 w3 (.slice lo (N + 1) lc) (ints L)) := HL2.out.below hb3 (Nat.le_refl _)
  have HB3 : Hid (Below w1.heap.size w1 w3) := HB2.out.trans (hb3.mono HB2.out.size)
  have D3 := HD3.out w3 HB3.out
  clear hod hb3 D2 HD3 HL2 HB2
  go_wp2_with fail
  refine D3.mono ?_
  rintro e w4 ⟨xv, rfl, hox, hb4⟩
  obtain ⟨xo, xc, hxv⟩ := owns_form hox
  subst hxv
  have HDD4 : Hid (Sl 0 3 w4 (.slice dO n dc) (ints D)) := HDD3.out.below hb4 (Nat.le_refl _)
  have HL4 : Hid (Sl 0 3 w4 (.slice lo (N + 1) lc) (ints L)) := HL3.out.below hb4 (Nat.le_refl _)
  have HB4 : Hid (Below w1.heap.size w1 w4) := HB3.out.trans (hb4.mono HB3.out.size)
  have D4 := HD4.out w4 HB4.out
  clear hox hb4 D3 HD4 HL3 HB3 HDD3
  go_wp2_with fail
  refine D4.mono ?_
  rintro e w5 ⟨po, pc, rfl, hb5⟩
  have HDD : Hid (Sl 0 3 w5 (.slice dO n dc) (ints D)) := HDD4.out.below hb5 (Nat.le_refl _)
  have HL : Hid (Sl 0 3 w5 (.slice lo (N + 1) lc) (ints L)) := HL4.out.below hb5 (Nat.le_refl _)
  have HBF : Hid (Below w.heap.size w w5) := HB1.out.trans ((HB4.out.trans (hb5.mono HB4.out.size)).mono HB1.out.size)
  clear hb5 D4 HL4 HB4 HDD4 HB1
  go_wp2
  go_loopw [14, 15] (fun av iv wr => ∃ k : Nat, k ≤ n ∧ iv = .int .i64 k ∧ av = .int .i64 (pdL (D.take k)) ∧ ∃ q, wr = w5.drewN q) (fun _ iv _ => n - (intOf iv).toNat)
  case atStart => exact ⟨0, Nat.zero_le _, rfl, rfl, 0, rfl⟩
  case round =>
    obtain ⟨k, hk, rfl, rfl, q, rfl⟩ := hrel
    by_cases hlt : k < n
    · obtain ⟨b1, o1, cp1, hs, _, hcc⟩ := sl_cell HDD.out (k := k) (by rw [HDL.out]; exact hlt)
      rw [HDL.out] at hs
      simp only [Value.slice.injEq, true_and] at hs
      obtain ⟨rfl, rfl⟩ := hs
      have b2 := HPB.out (k + 1) hlt
      have hps := HPS.out k hlt
      rw [hps] at b2
      have HPK : Hid (pdL (D.take (k + 1)) = pdL (D.take k) * D.getD k 0) := hps
      clear hps
      generalize D.getD k 0 = y at *
      generalize pdL (D.take k) = P at *
      obtain ⟨PY, hPY⟩ : ∃ PY, PY = P * y := ⟨_, rfl⟩
      rw [← hPY] at b2 HPK
      have mw : IntKind.i64.wrap (P * y) = PY := by rw [← hPY, IntWalk.i64_left]; exact IntWalk.wrap64_in _ ⟨by omega, by omega⟩
      have mw2 : wrap64 (P * y) = PY := by rw [← hPY]; exact IntWalk.wrap64_in _ ⟨by omega, by omega⟩
      clear hPY
      go_wp2
      go_roundw
      case rel => exact ⟨k + 1, by omega, by go_num, by rw [HPK.out], _, rfl⟩
      case measure => simp [intOf]; omega
    · have hke : D.take k = D := List.take_of_length_le (by rw [HDL.out]; omega)
      rw [hke]
      have HSU : Hid (∀ q, Calls Try.prog 9 #[.slice lo (N + 1) lc] (w5.drewN q) fun e w' => e = .returned (.int .i64 (pdL D)) ∧ ∃ n, w' = (w5.drewN q).drewN n) := fun q => by
        have h := sumT_any 0 L (.slice lo (N + 1) lc) (w5.drewN q) (HL.out.drewN q) (by rw [HLL.out]; omega) HLB.out
        rw [HSE.out] at h
        exact h
      clear HPB HPS HLB HSE
      generalize pdL D = P at *
      go_wp2
      go_loopw [16] (fun iv wr => ∃ i : Nat, i ≤ N + 1 ∧ iv = .int .i64 i ∧ ∃ q, wr = w5.drewN q) (fun iv _ => N + 1 - (intOf iv).toNat)
      case atStart => exact ⟨0, Nat.zero_le _, rfl, q, rfl⟩
      case round =>
        obtain ⟨i, hi, rfl, q2, rfl⟩ := hrel
        by_cases hlt2 : i < N + 1
        · obtain ⟨b1, o1, cp1, hs, _, hcc1⟩ := sl_cell HL.out (k := i) (by rw [HLL.out]; exact hlt2)
          obtain ⟨b2, o2, cp2, hs2, _, hcc2⟩ := sl_cell HL.out (k := N - i) (by rw [HLL.out]; omega)
          rw [HLL.out] at hs hs2
          simp only [Value.slice.injEq, true_and] at hs hs2
          obtain ⟨rfl, rfl⟩ := hs
          obtain ⟨hs3, _⟩ := hs2
          simp only [Option.some.injEq, Addr.mk.injEq, and_true] at hs3
          obtain ⟨rfl, rfl⟩ := hs3
          obtain ⟨hpa, hp1⟩ := HPA.out i hlt2
          rw [← hpa] at hcc2
          clear hpa
          generalize L.getD i 0 = z at *
          obtain ⟨pl, hpl⟩ : ∃ pl, pl = N - i := ⟨_, rfl⟩
          rw [← hpl] at hcc2
          have hpI : ((N + 1 : Nat) : Int) - 1 - (i : Int) = (pl : Int) := by omega
          have hpI2 : (N : Int) + 1 - 1 - (i : Int) = (pl : Int) := by omega
          have hpI3 : (N : Int) - (i : Int) = (pl : Int) := by omega
          have hplt : (pl : Int) < ((N + 1 : Nat) : Int) := by omega
          clear hpl
          have qz : decide (z < 1) = false := decide_eq_false (by omega)
          have hiI : (i : Int) < ((N + 1 : Nat) : Int) := by omega
          have hi0 : (0 : Int) ≤ (i : Int) := by omega
          have hp0 : (0 : Int) ≤ (pl : Int) := by omega
          have hw1 : IntKind.i64.wrap (N : Int) = (N : Int) := by rw [IntWalk.i64_left]; exact IntWalk.wrap64_in _ ⟨by omega, by omega⟩
          have hw2 : IntKind.i64.wrap (pl : Int) = (pl : Int) := by rw [IntWalk.i64_left]; exact IntWalk.wrap64_in _ ⟨by omega, by omega⟩
          clear hpI hpI2
          go_wp2
          refine wp_region_held_drew (S := fun w' => w'.cell? ⟨b1, o1 + i, none⟩ = some (.int .i64 z) ∧ w'.cell? ⟨b1, o1 + pl, none⟩ = some (.int .i64 z)) (by kernel_rfl) ⟨hcc1, hcc2⟩ (fun hHeld => ?_)
          refine wpAnyH_tk (i := 0) (d := 87) (v := (.slice (some ⟨b1, o1, none⟩) (N + 1) lc)) rfl rfl (by kernel_rfl) (by kernel_rfl) (by kernel_rfl) (fun _ _ _ h => h) (.inl ⟨by rfl, by (intro wq hSw; (try dsimp only at hSw); go_simp; (try (first | rfl | omega)))⟩) hHeld ?_
          simp only [Act.put, List.setIfInBounds_toArray, List.set_cons_zero, List.set_cons_succ]
          refine wpAnyH_tk (i := 1) (d := 88) (v := (.int .i64 (i : Int))) rfl rfl (by kernel_rfl) (by kernel_rfl) (by kernel_rfl) (fun _ _ _ h => h) (.inl ⟨by rfl, by (intro wq hSw; (try dsimp only at hSw); go_simp; (try (first | rfl | omega)))⟩) hHeld ?_
          simp only [Act.put, List.setIfInBounds_toArray, List.set_cons_zero, List.set_cons_succ]
          refine wpAnyH_tk (i := 2) (d := 89) (v := (.pointer (some ⟨b1, o1 + i, none⟩))) rfl rfl (by kernel_rfl) (by kernel_rfl) (by kernel_rfl) (fun _ _ _ h => h) (.inl ⟨by rfl, by (intro wq hSw; (try dsimp only at hSw); go_simp; (try (first | rfl | omega)))⟩) hHeld ?_
          simp only [Act.put, List.setIfInBounds_toArray, List.set_cons_zero, List.set_cons_succ]
          refine wpAnyH_tk (i := 3) (d := 90) (v := (.int .i64 z)) rfl rfl (by kernel_rfl) (by kernel_rfl) (by kernel_rfl) (fun _ _ _ h => h) (.inl ⟨by rfl, by (intro wq hSw; (try dsimp only at hSw); go_simp; (try (first | rfl | omega)))⟩) hHeld ?_
          simp only [Act.put, List.setIfInBounds_toArray, List.set_cons_zero, List.set_cons_succ]
          refine wpAnyH_tk (i := 4) (d := 91) (v := (.slice (some ⟨b1, o1, none⟩) (N + 1) lc)) rfl rfl (by kernel_rfl) (by kernel_rfl) (by kernel_rfl) (fun _ _ _ h => h) (.inl ⟨by rfl, by (intro wq hSw; (try dsimp only at hSw); go_simp; (try (first | rfl | omega)))⟩) hHeld ?_
          simp only [Act.put, List.setIfInBounds_toArray, List.set_cons_zero, List.set_cons_succ]
          refine wpAnyH_tk (i := 5) (d := 92) (v := (.slice (some ⟨b1, o1, none⟩) (N + 1) lc)) rfl rfl (by kernel_rfl) (by kernel_rfl) (by kernel_rfl) (fun _ _ _ h => h) (.inl ⟨by rfl, by (intro wq hSw; (try dsimp only at hSw); go_simp; (try (first | rfl | omega)))⟩) hHeld ?_
          simp only [Act.put, List.setIfInBounds_toArray, List.set_cons_zero, List.set_cons_succ]
          refine wpAnyH_tk (i := 6) (d := 93) (v := (.int .i64 ((N + 1 : Nat) : Int))) rfl rfl (by kernel_rfl) (by kernel_rfl) (by kernel_rfl) (fun _ _ _ h => h) (.inl ⟨by rfl, by (intro wq hSw; (try dsimp only at hSw); go_simp; (try (first | rfl | omega)))⟩) hHeld ?_
          simp only [Act.put, List.setIfInBounds_toArray, List.set_cons_zero, List.set_cons_succ]
          refine wpAnyH_tk (i := 7) (d := 94) (v := (.int .i64 (N : Int))) rfl rfl (by kernel_rfl) (by kernel_rfl) (by kernel_rfl) (fun _ _ _ h => h) (.inl ⟨by rfl, by (intro wq hSw; (try dsimp only at hSw); go_simp; (try (first | rfl | omega)))⟩) hHeld ?_
          simp only [Act.put, List.setIfInBounds_toArray, List.set_cons_zero, List.set_cons_succ]
          refine wpAnyH_tk (i := 8) (d := 95) (v := (.int .i64 (i : Int))) rfl rfl (by kernel_rfl) (by kernel_rfl) (by kernel_rfl) (fun _ _ _ h => h) (.inl ⟨by rfl, by (intro wq hSw; (try dsimp only at hSw); go_simp; (try (first | rfl | omega)))⟩) hHeld ?_
          simp only [Act.put, List.setIfInBounds_toArray, List.set_cons_zero, List.set_cons_succ]
          refine wpAnyH_tk (i := 9) (d := 96) (v := (.int .i64 (pl : Int))) rfl rfl (by kernel_rfl) (by kernel_rfl) (by kernel_rfl) (fun _ _ _ h => h) (.inl ⟨by rfl, by (intro wq hSw; (try dsimp only at hSw); go_simp; (try (first | rfl | omega)))⟩) hHeld ?_
          simp only [Act.put, List.setIfInBounds_toArray, List.set_cons_zero, List.set_cons_succ]
          refine wpAnyH_tk (i := 10) (d := 97) (v := (.pointer (some ⟨b1, o1 + pl, none⟩))) rfl rfl (by kernel_rfl) (by kernel_rfl) (by kernel_rfl) (fun _ _ _ h => h) (.inl ⟨by rfl, by (intro wq hSw; (try dsimp only at hSw); go_simp; (try (first | rfl | omega)))⟩) hHeld ?_
          simp only [Act.put, List.setIfInBounds_toArray, List.set_cons_zero, List.set_cons_succ]
          refine wpAnyH_tk (i := 11) (d := 98) (v := (.int .i64 z)) rfl rfl (by kernel_rfl) (by kernel_rfl) (by kernel_rfl) (fun _ _ _ h => h) (.inl ⟨by rfl, by (intro wq hSw; (try dsimp only at hSw); go_simp; (try (first | rfl | omega)))⟩) hHeld ?_
          simp only [Act.put, List.setIfInBounds_toArray, List.set_cons_zero, List.set_cons_succ]
          refine wpAnyH_tk (i := 12) (d := 99) (v := (.bool false)) rfl rfl (by kernel_rfl) (by kernel_rfl) (by kernel_rfl) (fun _ _ _ h => h) (.inl ⟨by rfl, by (intro wq hSw; (try dsimp only at hSw); go_simp; (try (first | rfl | omega)))⟩) hHeld ?_
          simp only [Act.put, List.setIfInBounds_toArray, List.set_cons_zero, List.set_cons_succ]
          refine wpAnyH_tk (i := 13) (d := 100) (v := (.bool false)) rfl rfl (by kernel_rfl) (by kernel_rfl) (by kernel_rfl) (fun _ _ _ h => h) (.inl ⟨by rfl, by (intro wq hSw; (try dsimp only at hSw); go_simp; (try (first | rfl | omega)))⟩) hHeld ?_
          simp only [Act.put, List.setIfInBounds_toArray, List.set_cons_zero, List.set_cons_succ]
          refine wpAnyH_tk (i := 14) (d := 101) (v := (.slice (some ⟨b1, o1, none⟩) (N + 1) lc)) rfl rfl (by kernel_rfl) (by kernel_rfl) (by kernel_rfl) (fun _ _ _ h => h) (.inl ⟨by rfl, by (intro wq hSw; (try dsimp only at hSw); go_simp; (try (first | rfl | omega)))⟩) hHeld ?_
          simp only [Act.put, List.setIfInBounds_toArray, List.set_cons_zero, List.set_cons_succ]
          refine wpAnyH_tk (i := 15) (d := 102) (v := (.int .i64 (i : Int))) rfl rfl (by kernel_rfl) (by kernel_rfl) (by kernel_rfl) (fun _ _ _ h => h) (.inl ⟨by rfl, by (intro wq hSw; (try dsimp only at hSw); go_simp; (try (first | rfl | omega)))⟩) hHeld ?_
          simp only [Act.put, List.setIfInBounds_toArray, List.set_cons_zero, List.set_cons_succ]
          refine wpAnyH_tk (i := 16) (d := 103) (v := (.pointer (some ⟨b1, o1 + i, none⟩))) rfl rfl (by kernel_rfl) (by kernel_rfl) (by kernel_rfl) (fun _ _ _ h => h) (.inl ⟨by rfl, by (intro wq hSw; (try dsimp only at hSw); go_simp; (try (first | rfl | omega)))⟩) hHeld ?_
          simp only [Act.put, List.setIfInBounds_toArray, List.set_cons_zero, List.set_cons_succ]
          refine wpAnyH_tk (i := 17) (d := 104) (v := (.int .i64 z)) rfl rfl (by kernel_rfl) (by kernel_rfl) (by kernel_rfl) (fun _ _ _ h => h) (.inl ⟨by rfl, by (intro wq hSw; (try dsimp only at hSw); go_simp; (try (first | rfl | omega)))⟩) hHeld ?_
          simp only [Act.put, List.setIfInBounds_toArray, List.set_cons_zero, List.set_cons_succ]
          refine wpAnyH_tk (i := 18) (d := 105) (v := (.bool false)) rfl rfl (by kernel_rfl) (by kernel_rfl) (by kernel_rfl) (fun _ _ _ h => h) (.inl ⟨by rfl, by (intro wq hSw; (try dsimp only at hSw); go_simp; (try (first | rfl | omega)))⟩) hHeld ?_
          simp only [Act.put, List.setIfInBounds_toArray, List.set_cons_zero, List.set_cons_succ]
          refine wpAnyH_tk (i := 19) (d := 106) (v := (.bool false)) rfl rfl (by kernel_rfl) (by kernel_rfl) (by kernel_rfl) (fun _ _ _ h => h) (.inl ⟨by rfl, by (intro wq hSw; (try dsimp only at hSw); go_simp; (try (first | rfl | omega)))⟩) hHeld ?_
          simp only [Act.put, List.setIfInBounds_toArray, List.set_cons_zero, List.set_cons_succ]
          refine wpAnyH_done (by kernel_rfl) ?_ _
          clear hHeld
          go_wp2
          go_roundw
          case rel => exact ⟨i + 1, by omega, by go_num, _, rfl⟩
          case measure => simp [intOf]; omega
        · go_wp2_with fail
          refine (HSU.out _).mono ?_
          rintro e w6 ⟨rfl, q3, rfl⟩
          have HBE : Hid (Below w.heap.size w (w5.drewN (q2 + q3))) := HBF.out.trans ⟨rfl, rfl, rfl, Nat.le_refl _, fun _ _ => rfl⟩
          go_wp2
          go_ret
          exact ⟨ret_bool (by first | rfl | simp), HBE.out⟩

end Go.Proofs.Ytjpmhgidckmdoaa
