/- The document's Greatest. -/
import Derived.Test.YtdmkmljhljoojaaMgAM
import Derived.Deep.DeepCutAuto
namespace Go.Proofs.Ytdmkmljhljoojaa
open Go.RowKit Lin
attribute [local go_sem ↓] Go.wp_at_zero Go.wp_at_succ

set_option maxRecDepth 100000 in
set_option maxHeartbeats 8000000 in
theorem greatest_any (d : Nat) (R : List (List Int)) (g : List Int) (v gv : Value) (w : World) {B0 B1 : Nat} (hv0 : Mat B0 25 3 w v R) (hgs0 : Sl B1 3 w gv (ints g)) (hgl : g.length = d) (hgb : ∀ z ∈ g, z.natAbs ≤ 20) (hd1 : 1 ≤ d) (hd : d ≤ 4) (hR : R.length ≤ 12) (hx : RwE d R)
    (a b : Int) (hab : low [(gtTo d R (allR d R) g (chosenL d (R.length + d)) (chosenL d (R.length + d)).length).1, (gtTo d R (allR d R) g (chosenL d (R.length + d)) (chosenL d (R.length + d)).length).2] = [a, b]) :
    Calls Try.prog 6 #[.agg #[.int .i64 d, v], gv] w fun e w' => e = .returned (.tuple #[.int .i64 a, .int .i64 b]) ∧ Below w.heap.size w w' := by
  have hv : Mat w.heap.size 25 3 w v R := hv0.any (Nat.le_refl _)
  have hgs : Sl w.heap.size 3 w gv (ints g) := hgs0.any (Nat.le_refl _)
  clear hv0 hgs0
  obtain ⟨i0, hi, hz0, hz1, hz2⟩ := info_parts Try.info25
  obtain ⟨ro, rcp, hvv, hlc, _⟩ := mat_open hv
  obtain ⟨go, gc, hgg, _, _⟩ := sl_open hgs
  obtain ⟨nr, hnr⟩ : ∃ nr, nr = R.length := ⟨_, rfl⟩
  rw [← hnr] at hvv hR hlc hab
  rw [hgl] at hgg
  subst hvv hgg
  obtain ⟨W0, hW0, hb0, hs0, hc0⟩ := cut_box w d (.slice ro nr rcp)
  have HNR : Hid (nr = R.length) := hnr
  have HRW : Hid (∀ W', Below W0.heap.size W0 W' → Mat W0.heap.size 25 3 W' (.slice ro nr rcp) R) := fun W' hB => ((hv.below hb0 (Nat.le_refl _)).below hB (Nat.le_refl _)).more hb0.size
  have HGW : Hid (∀ W', Below W0.heap.size W0 W' → Sl W0.heap.size 3 W' (.slice go d gc) (ints g)) := fun W' hB => ((hgs.below hb0 (Nat.le_refl _)).below hB (Nat.le_refl _)).more hb0.size
  have HGL : Hid (g.length = d) := hgl
  have HDE : Hid (low [(gtTo d R (allR d R) g (chosenL d (nr + d)) (chosenL d (nr + d)).length).1, (gtTo d R (allR d R) g (chosenL d (nr + d)) (chosenL d (nr + d)).length).2] = [a, b]) := hab
  clear hab
  have HGB : Hid (∀ z ∈ g, z.natAbs ≤ 20) := hgb
  have HW0 : Hid (W0 = w.alloc (.cells #[.int .i64 d, .slice ro nr rcp] 24)) := hW0
  have HB0 : Hid (Below w.heap.size w W0) := hb0
  have HC0 : Hid (∀ W', Below W0.heap.size W0 W' → W'.cell? ⟨w.heap.size, 0, none⟩ = some (.int .i64 d) ∧ W'.cell? ⟨w.heap.size, 1, none⟩ = some (.slice ro nr rcp)) := hc0
  have HRBX : Hid (∀ r ∈ R, r.length = d + 1 ∧ ∀ z ∈ r, z.natAbs ≤ 30) := fun r hr => ⟨(hx r hr).1, fun z hz => by have := (hx r hr).2 z hz; omega⟩
  have HABX : Hid (∀ r ∈ allR d R, r.length = d + 1 ∧ ∀ z ∈ r, z.natAbs ≤ 30) := all_box hx
  have hmk := run_make_row' (P := Try.prog) 25 3 (.int .i64 0) 8 Try.underlying25 Try.info3 rfl .i64 .i64 (d + 1) (by omega) (by omega)
  rw [show (((d + 1 : Nat) : Int)) = (d : Int) + 1 by omega] at hmk
  obtain ⟨c0, c1⟩ := hc0 W0 (Below.refl _ _)
  clear hv hx hnr hgs hgl hgb hW0 hb0 hs0 hc0
  go_enter Try.func6, Try.ntmps6
  go_upto_region 1 with fail
  rw [← HW0.out]
  go_upto_region 2 with fail
  obtain ⟨rvs, r1, r2, r3⟩ := HRW.out W0 (Below.refl _ _)
  rw [← HNR.out] at r1 r3
  have R1 : Hid (rvs.length = nr) := r1
  have HBE : Hid (Below W0.heap.size W0 (W0.alloc (.cells #[] 25))) := alloc_keep _ _
  have HE0 : Hid ((W0.alloc (.cells #[] 25)).ownsRow W0.heap.size 25 1 (.slice (some ⟨W0.heap.size, 0, none⟩) 0 0) 0 []) := emp_own W0 W0.heap.size (Nat.le_refl _)
  have R2 : Hid (Sl W0.heap.size 25 (W0.alloc (.cells #[] 25)) (.slice ro nr rcp) rvs) := r2.below HBE.out (Nat.le_refl _)
  have R3 : Hid (∀ i, i < nr → Sl W0.heap.size 3 (W0.alloc (.cells #[] 25)) (rvs.getD i (.slice none 0 0)) (ints (R.getD i []))) := fun i hi => (r3 i hi).below HBE.out (Nat.le_refl _)
  have HONE : Hid (∀ u ∈ rvs, u.oneCell' = true) := rows_one1 (m := R) (by rw [R1.out, HNR.out]) (fun i hi => R3.out i (by rw [HNR.out]; exact hi))
  have hszE : W0.heap.size ≤ (W0.alloc (.cells #[] 25)).heap.size := by rw [size_alloc]; omega
  clear r1 r2 r3 c0 c1
  obtain ⟨c0, c1⟩ := HC0.out _ HBE.out
  go_wp2_with (first | (at_builtin; refine wpList_app_sl rfl _ _ 22 rfl W0.heap.size 25 i0 (.slice none 0 0) 24 Try.underlying22 hi hz0 hz1 hz2 rfl _ _ _ rfl HE0.out ro nr rcp rvs rfl R2.out HONE.out ?d3 ?d4 ?d5 ?_))
  case d3 => unfold maxLen; omega
  case d4 => omega
  case d5 => exact hszE
  intro v1 w3 ho hg
  have HF3 : Hid (Rws W0.heap.size 25 3 w3 v1 R) := by
    have ht : ∀ k, (Value.slice (some (⟨W0.heap.size, 0, none⟩ : Addr)) 0 0).ownBlock = some k → W0.heap.size ≤ k ∧ ∀ cur, (W0.alloc (.cells #[] 25)).heap[k]? ≠ some (.cells cur 3 (0, 0)) := fun k hk => ⟨(HE0.out.lt k hk).1, (owns_typed HE0.out (by decide) k hk).2⟩
    exact ⟨rvs, by rw [R1.out, HNR.out], by rw [← HNR.out]; exact ho, fun i hi => (R3.out i (by rw [HNR.out]; exact hi)).grown hg ht⟩
  have HB3 : Hid (Below W0.heap.size W0 w3) := HBE.out.grown hg hszE (fun k hk => by cases hk; exact Nat.le_refl _)
  clear ho hg R2 R3 HE0 HBE HONE R1 c0 c1 hszE
  go_wp2
  go_loopw [7, 8] (fun x i wr => ∃ k : Nat, k ≤ d ∧ i = .int .i64 k ∧ Rws W0.heap.size 25 3 wr x (R ++ (axsL d).take k) ∧ Below W0.heap.size W0 wr) (fun _ i _ => d - (intOf i).toNat)
  case atStart => exact ⟨0, Nat.zero_le _, rfl, by rw [List.take_zero, List.append_nil]; exact HF3.out, HB3.out⟩
  case round =>
    obtain ⟨k, hk, rfl, hfr, hbel⟩ := hrel
    have HF : Hid (Rws W0.heap.size 25 3 wr u7 (R ++ (axsL d).take k)) := hfr
    have HB : Hid (Below W0.heap.size W0 wr) := hbel
    have hsz : W0.heap.size ≤ wr.heap.size := hbel.size
    clear hfr hbel
    by_cases hlt : k < d
    · have hkI : (k : Int) < (d : Int) := by omega
      have hkI0 : (0 : Int) ≤ (k : Int) := by omega
      have hkI1 : (k : Int) < (d : Int) + 1 := by omega
      have HSN : Hid (R ++ (axsL d).take (k + 1) = (R ++ (axsL d).take k) ++ [axR d k]) := by show _ = _; rw [axs_snoc hlt, List.append_assoc]
      have HLN : Hid ((R ++ (axsL d).take k).length = nr + k) := by show _ = _; rw [List.length_append, List.length_take, axs_len, ← HNR.out]; omega
      have hmc : (madeCells #[.int .i64 0] (d + 1))[k]? = some (.int .i64 0) := by
        rw [← Array.getElem?_toList, toList_madeCells_one, List.getElem?_replicate, if_pos (by omega)]
      obtain ⟨W3, hW3⟩ : ∃ W3, W3 = wr.alloc (.cells ((madeCells #[.int .i64 0] (d + 1)).setIfInBounds k (.int .i64 1)) 3) := ⟨_, rfl⟩
      have HSL : Hid (Sl 0 3 W3 (.slice (some ⟨wr.heap.size, 0, none⟩) (d + 1) (d + 1)) (ints (axR d k))) := by rw [hW3]; exact ax_row (by omega) (by omega) rfl
      have HB3 : Hid (Below wr.heap.size wr W3) := by rw [hW3]; exact alloc_keep _ _
      go_upto_region 8 with fail
      rw [← hW3]
      clear hW3 hmc
      obtain ⟨vs, g1, g2, g3⟩ := HF.out.below HB3.out (Nat.le_refl _)
      rw [HLN.out] at g1 g2 g3
      have G1 : Hid (vs.length = nr + k) := g1
      have G2 : Hid (W3.ownsRow W0.heap.size 25 1 u7 (nr + k) vs) := g2
      have G3 : Hid (∀ i, i < nr + k → Sl W0.heap.size 3 W3 (vs.getD i (.slice none 0 0)) (ints ((R ++ (axsL d).take k).getD i []))) := g3
      have hsz3 : W0.heap.size ≤ W3.heap.size := Nat.le_trans hsz HB3.out.size
      have HB3w : Hid (Below W0.heap.size W0 W3) := HB.out.trans (HB3.out.mono hsz)
      clear g1 g2 g3
      go_wp2_with (first | (at_builtin; refine wpList_append_own _ rfl _ _ 22 rfl W0.heap.size 25 i0 (.slice none 0 0) 1 24 Try.underlying22 hi hz0 hz1 hz2 rfl (by decide) _ _ _ rfl (G2.out.alloc _) ⟨W3.heap.size, 0, none⟩ 1 1 [.slice (some ⟨wr.heap.size, 0, none⟩) (d + 1) (d + 1)] rfl rfl (one_new _ _ _) (one_slice _ _ _) ?d3 ?d4 ?d5 ?_))
      case d3 => unfold maxLen; omega
      case d4 => omega
      case d5 => simp; omega
      intro v' w4 ho hg _
      have R1 : Hid (Rws W0.heap.size 25 3 w4 v' (R ++ (axsL d).take (k + 1))) := by
        have hp := Rws.push (B := W0.heap.size) (e2 := 25) (e1 := 3) (m := R ++ (axsL d).take k) (u := .slice (some ⟨wr.heap.size, 0, none⟩) (d + 1) (d + 1)) (zs := axR d k) (by decide) (by rw [HLN.out]; exact G1.out) (by rw [HLN.out]; exact G2.out.alloc _)
          (fun i hi => (G3.out i (by rw [HLN.out] at hi; exact hi)).alloc _) ((HSL.out.alloc _).more (Nat.zero_le _)) (by rw [HLN.out]; exact ho) hg
        rw [← HSN.out] at hp
        exact hp
      have R2 : Hid (Below W0.heap.size W0 w4) := (HB3w.out.alloc hsz3 _).grown hg (by simp; omega) (fun x hx => (G2.out.lt x hx).1)
      clear ho hg
      go_wp2
      go_roundw
      case rel => exact ⟨k + 1, by omega, by go_num, R1.out, R2.out⟩
      case measure => simp [intOf]; omega
    · obtain rfl : d = k := by omega
      obtain ⟨w1, rfl⟩ : ∃ w1, w1 = wr := ⟨_, rfl⟩
      have HF1 : Hid (Rws W0.heap.size 25 3 w1 u7 (allR d R)) := by
        have hfa := HF.out
        rw [List.take_of_length_le (by rw [axs_len]; exact Nat.le_refl _)] at hfa
        exact hfa
      have HB1 : Hid (Below W0.heap.size W0 w1) := HB.out
      obtain ⟨ao, ac, hav, _, _⟩ := mat_open (HF1.out.mat (Nat.le_refl _))
      obtain ⟨n, hn⟩ : ∃ n, n = (allR d R).length := ⟨_, rfl⟩
      rw [← hn] at hav
      subst hav
      have HN : Hid (n = (allR d R).length) := hn
      have hnr2 : n = nr + d := by rw [hn, all_len, ← HNR.out]
      have hn16 : n ≤ 17 := by omega
      have hn1 : 1 ≤ n := by omega
      rw [← hnr2] at HDE
      have HAL : Hid (∀ W', Below w1.heap.size w1 W' → Mat W0.heap.size 25 3 W' (.slice ao n ac) (allR d R)) := fun W' hB => (HF1.out.mat (Nat.le_refl _)).below hB (Nat.le_refl _)
      clear hn HF HF1 HF3 HB3 hnr2 HB
      obtain ⟨A, hA⟩ : ∃ A, A = allR d R := ⟨_, rfl⟩
      rw [← hA] at HAL HN HABX HDE
      clear hA
      go_wp2_with fail
      refine (chosen_any d (by omega) n w1 (by omega)).mono ?_
      rintro e w2 ⟨cv, rfl, hcf, hb12⟩
      have HCF : Hid (Fr w1.heap.size 25 3 w2 cv (chosenL d n)) := hcf
      have HB12 : Hid (Below w1.heap.size w1 w2) := hb12
      have HB2 : Hid (Below W0.heap.size W0 w2) := HB1.out.trans (hb12.mono HB1.out.size)
      obtain ⟨co, cc, hcv, hcc1, hcc2⟩ := mat_open (fr_matE hcf)
      subst hcv
      have HCL : Hid ((chosenL d n).length ≤ 16777216) := Nat.le_trans (chosen_len d n (by omega)) (Nat.le_trans (Nat.pow_le_pow_right (by decide) (show d ≤ 4 by omega)) (by decide))
      have HCR : Hid (∀ c ∈ chosenL d n, c.length = d ∧ ∀ i, i < d → 0 ≤ c.getD i 0 ∧ c.getD i 0 < (n : Int)) := fun c h => ⟨chosen_row d n c h, (chosen_mem d n c h).1⟩
      clear hcf hb12
      obtain ⟨C, hC⟩ : ∃ C, C = chosenL d n := ⟨_, rfl⟩
      rw [← hC] at HCF HCL HCR hcc1 HDE ⊢
      clear hC
      go_wp2
      go_loopw [10, 11, 13] (fun o u i wr => ∃ (k : Nat) (ov un : Int), k ≤ C.length ∧ i = .int .i64 k ∧ o = .int .i64 ov ∧ u = .int .i64 un ∧ GtI d R A g C k ov un ∧ Below w2.heap.size w2 wr) (fun _ _ i _ => C.length - (intOf i).toNat)
      case atStart => exact ⟨0, 0, 0, Nat.zero_le _, rfl, rfl, rfl, GtI.zero _ _ _ _ _, Below.refl _ _⟩
      case round =>
        obtain ⟨k, ov, un, hk, rfl, rfl, rfl, hst,  hbel⟩ := hrel
        rename World => wa
        have HB : Hid (Below w2.heap.size w2 wa) := hbel
        have HBa : Hid (Below W0.heap.size W0 wa) := HB2.out.trans (hbel.mono HB2.out.size)
        have HB1a : Hid (Below w1.heap.size w1 wa) := HB12.out.trans (hbel.mono HB12.out.size)
        have hsza : w2.heap.size ≤ wa.heap.size := hbel.size
        clear hbel
        have HST : Hid (GtI d R A g C k ov un) := hst
        clear hst
        by_cases hlt : k < C.length
        · obtain ⟨b2, o2, cp2, r1, hs, hc1, hcc1a, hr1⟩ := mat_cell (fr_matE HCF.out) hlt
          simp only [Value.slice.injEq, true_and] at hs
          obtain ⟨rfl, rfl⟩ := hs
          have hmem : C.getD k [] ∈ C := by simp [hlt]
          obtain ⟨hcl, hcq⟩ := HCR.out _ hmem
          obtain ⟨so, sc, hsv, _, _⟩ := sl_open hr1
          rw [hcl] at hsv
          subst hsv
          have HNX : Hid (ptT R d (pks A [] (C.getD k [])) = none → GtI d R A g C (k + 1) ov un) := HST.out.none hlt
          have HHIT : Hid (∀ y, ptT R d (pks A [] (C.getD k [])) = some y → ((dotL g y).natAbs ≤ 24883200000 → (y.getD d 0).natAbs ≤ 311040000 → (un = 0 ∨ ov * y.getD d 0 < dotL g y * un) → GtI d R A g C (k + 1) (dotL g y) (y.getD d 0)) ∧ (¬ (un = 0 ∨ ov * y.getD d 0 < dotL g y * un) → GtI d R A g C (k + 1) ov un)) := fun y hy => ⟨fun h1 h2 h3 => HST.out.up hlt hy h1 h2 h3, fun h3 => HST.out.stay hlt hy h3⟩
          generalize C.getD k [] = c at *
          have HCK : Hid (∀ W, Below w2.heap.size w2 W → W.cell? ⟨b2, o2 + k, none⟩ = some (.slice so d sc)) := fun W h => (h.cell (lt_of_cell hcc1a)).trans hcc1a
          have HSC : Hid (∀ W, Below w2.heap.size w2 W → Sl 0 3 W (.slice so d sc) (ints c)) := fun W h => hr1.below h (Nat.le_refl _)
          have HCQ : Hid (∀ i, i < d → 0 ≤ c.getD i 0 ∧ c.getD i 0 < (n : Int)) := hcq
          have HCD : Hid (c.length = d) := hcl
          clear hr1 hcc1a hcq hcl hmem
          have hkI : (k : Int) < (C.length : Int) := by omega
          have hkI0 : (0 : Int) ≤ (k : Int) := by omega
          go_wp2
          go_loopw [14, 15] (fun x i wq => ∃ j : Nat, j ≤ d ∧ i = .int .i64 j ∧ Rws wa.heap.size 25 3 wq x ((pks A [] (c.take j)).map (ngR d)) ∧ Below wa.heap.size wa wq) (fun _ i _ => d - (intOf i).toNat)
          case atStart => exact ⟨0, Nat.zero_le _, rfl, Rws.nil _ _ _ _, Below.refl _ _⟩
          case round =>
            obtain ⟨j, hj, rfl, hfr, hbel⟩ := hrel
            have HFS : Hid (Rws wa.heap.size 25 3 wr u14 ((pks A [] (c.take j)).map (ngR d))) := hfr
            have HBS : Hid (Below wa.heap.size wa wr) := hbel
            have HB2r : Hid (Below w2.heap.size w2 wr) := HB.out.trans (hbel.mono hsza)
            have HB1r : Hid (Below w1.heap.size w1 wr) := HB1a.out.trans (hbel.mono HB1a.out.size)
            clear hfr hbel
            by_cases hjl : j < d
            · have HSN : Hid ((pks A [] (c.take (j + 1))).map (ngR d) = (pks A [] (c.take j)).map (ngR d) ++ [ngR d (A.getD (c.getD j 0).toNat [])]) := by
                show _ = _
                rw [pks_snocE A c j (by rw [HCD.out]; exact hjl), List.map_append]
                rfl
              have HLN : Hid (((pks A [] (c.take j)).map (ngR d)).length = j) := by show _ = _; have := HCD.out; simp [pks]; omega
              obtain ⟨b3, o3, cp3, hs3, hc3, hcc3⟩ := sl_cell (HSC.out wr HB2r.out) (k := j) (by rw [HCD.out]; exact hjl)
              simp only [Value.slice.injEq] at hs3
              obtain ⟨rfl, hxx, rfl⟩ := hs3
              clear hxx
              have hccK := HCK.out wr HB2r.out
              obtain ⟨hx0, hx1⟩ := HCQ.out j hjl
              obtain ⟨q, hq⟩ : ∃ q : Nat, c.getD j 0 = (q : Int) := ⟨(c.getD j 0).toNat, by omega⟩
              rw [hq] at hcc3 hx0 hx1 HSN
              rw [show ((q : Int)).toNat = q by omega] at HSN
              clear hq
              have hqP : q < A.length := by rw [← HN.out]; omega
              have hqn : q < n := by omega
              obtain ⟨b4, o4, cp4, r2, hs4, _, hcc4, hr2⟩ := mat_cell (HAL.out wr HB1r.out) hqP
              rw [← HN.out] at hs4
              simp only [Value.slice.injEq, true_and] at hs4
              obtain ⟨rfl, rfl⟩ := hs4
              have hyb := HABX.out (A.getD q []) (by simp [hqP])
              obtain ⟨yo, yc, hrv, _, _⟩ := sl_open hr2
              rw [hyb.1] at hrv
              subst hrv
              have HR2 : Hid (Sl wr.heap.size 3 wr (.slice yo (d + 1) yc) (ints (A.getD q []))) := hr2.any (Nat.le_refl _)
              have HYB : Hid ((A.getD q []).length = d + 1 ∧ ((A.getD q []).getD d 0).natAbs ≤ 30) := ⟨hyb.1, hyb.2 ((A.getD q []).getD d 0) (getD_mem (by rw [hyb.1]; omega))⟩
              clear hr2 hyb
              generalize A.getD q [] = y at *
              clear hc3 hqP
              have hszr : wa.heap.size ≤ wr.heap.size := HBS.out.size
              have hjI : (j : Int) < (d : Int) := by omega
              have hjI0 : (0 : Int) ≤ (j : Int) := by omega
              have hqnI : (q : Int) < (n : Int) := by omega
              have hqI0 : (0 : Int) ≤ (q : Int) := by omega
              go_wp2_with fail
              refine (copy_any wr.heap.size y _ wr HR2.out (by rw [HYB.out.1]; omega)).mono ?_
              rintro e w3 ⟨u, rfl, ho2, hb2⟩
              rw [HYB.out.1] at ho2
              obtain ⟨g, gc, F, hu, hg, hrow, hF, hgn, hgm⟩ := own_rw ho2 (by omega)
              subst hu
              have ca := hrow.cell (i := d) (by omega)
              have cf := hrow.frozen d
              rw [hF d (by omega)] at ca
              have hzb := HYB.out.2
              have HROW : Hid ((w3.setCell ⟨g, d, none⟩ (.int .i64 (-(y.getD d 0)))).rowIs g 3 gc (fun i => if i = d then .int .i64 (-(y.getD d 0)) else F i)) := hrow.set d _
              have HSL : Hid (∀ Z, Sl Z 3 (w3.setCell ⟨g, d, none⟩ (.int .i64 (-(y.getD d 0)))) (.slice (some ⟨g, 0, none⟩) (d + 1) gc) (ints (ngR d y))) := fun Z => row_slT HROW.out (fun i hi => by
                show (if i = d then Value.int .i64 (-(y.getD d 0)) else F i) = _
                rw [ngR_get HYB.out.1 hi]
                by_cases e : i = d
                · rw [if_pos e, if_pos e]
                · rw [if_neg e, if_neg e, hF i hi]) (ngR_len HYB.out.1) hgn hgm
              have HB3 : Hid (Below wr.heap.size wr (w3.setCell ⟨g, d, none⟩ (.int .i64 (-(y.getD d 0))))) := ((Touch.refl _ _).setCell d _).below hb2 hg
              generalize y.getD d 0 = z at *
              have hnz : wrap64 (-z) = -z := IntWalk.wrap64_in _ ⟨by omega, by omega⟩
              have hdI : (d : Int) < (d : Int) + 1 := by omega
              have hdI0 : (0 : Int) ≤ (d : Int) := by omega
              clear hrow hF ho2 hb2
              go_upto_region 21 with fail
              obtain ⟨W3, hW3⟩ : ∃ W3, W3 = w3.setCell ⟨g, d, none⟩ (.int .i64 (-z)) := ⟨_, rfl⟩
              rw [← hW3] at HSL HB3 ⊢
              clear hW3 HROW ca cf
              obtain ⟨vs, g1, g2, g3⟩ := HFS.out.below HB3.out (Nat.le_refl _)
              have hlen := HLN.out
              rw [hlen] at g1 g2 g3
              have G1 : Hid (vs.length = j) := g1
              have G2 : Hid (W3.ownsRow wa.heap.size 25 1 u14 j vs) := g2
              have G3 : Hid (∀ i, i < j → Sl wa.heap.size 3 W3 (vs.getD i (.slice none 0 0)) (ints (((pks A [] (c.take j)).map (ngR d)).getD i []))) := g3
              have hsz3 : wa.heap.size ≤ W3.heap.size := Nat.le_trans hszr HB3.out.size
              have HB3a : Hid (Below wa.heap.size wa W3) := HBS.out.trans (HB3.out.mono hszr)
              clear g1 g2 g3 hlen
              go_wp2_with (first | (at_builtin; refine wpList_append_own _ rfl _ _ 22 rfl wa.heap.size 25 i0 (.slice none 0 0) 1 24 Try.underlying22 hi hz0 hz1 hz2 rfl (by decide) _ _ _ rfl (G2.out.alloc _) ⟨W3.heap.size, 0, none⟩ 1 1 [.slice (some ⟨g, 0, none⟩) (d + 1) gc] rfl rfl (one_new _ _ _) (one_slice _ _ _) ?d3 ?d4 ?d5 ?_))
              case d3 => unfold maxLen; omega
              case d4 => omega
              case d5 => simp; omega
              intro v' w4 ho hg' _
              have R1 : Hid (Rws wa.heap.size 25 3 w4 v' ((pks A [] (c.take (j + 1))).map (ngR d))) := by
                have hp := Rws.push (e2 := 25) (e1 := 3) (m := (pks A [] (c.take j)).map (ngR d)) (u := .slice (some ⟨g, 0, none⟩) (d + 1) gc) (zs := ngR d y) (by decide) (by rw [HLN.out]; exact G1.out) (by rw [HLN.out]; exact G2.out.alloc _)
                  (fun i hi => (G3.out i (by rw [HLN.out] at hi; exact hi)).alloc _) ((HSL.out _).alloc _) (by rw [HLN.out]; exact ho) hg'
                rw [← HSN.out] at hp
                exact hp
              have R2 : Hid (Below wa.heap.size wa w4) := (HB3a.out.alloc hsz3 _).grown hg' (by simp; omega) (fun x hx => (G2.out.lt x hx).1)
              clear ho hg'
              go_wp2
              go_roundw
              case rel => exact ⟨j + 1, by omega, by go_num, R1.out, R2.out⟩
              case measure => simp [intOf]; omega
            · obtain rfl : d = j := by omega
              have HT : Hid (Rws wa.heap.size 25 3 wr u14 ((pks A [] c).map (ngR d))) := by
                have := HFS.out
                rw [List.take_of_length_le (by rw [HCD.out]; exact Nat.le_refl _)] at this
                exact this
              clear HFS hj hjl
              have HTL : Hid ((pks A [] c).length = d) := by show _ = _; rw [← HCD.out]; simp [pks]
              have HTM : Hid (∀ x ∈ pks A [] c, x ∈ A) := pks_inE fun q hq => by
                obtain ⟨i, hi, rfl⟩ := List.mem_iff_getElem.1 hq
                have := HCQ.out i (by rw [← HCD.out]; exact hi)
                rw [← HN.out]
                simpa [hi] using this
              generalize pks A [] c = t at *
              have HTX : Hid (Mx (d + 1) 60 (t.map (ngR d))) := ng_mxE (fun x hx => HABX.out x (HTM.out x hx)) hd
              go_wp2_with fail
              refine (normalR_own (d + 1) 60 wa.heap.size (t.map (ngR d)) u14 wr HTX.out (HT.out.mat (Nat.le_refl _)) (by rw [List.length_map, HTL.out]; omega) (by rw [List.length_map, HTL.out]; omega)).mono ?_
              rintro e W5 ⟨nv, rfl, hns, hbn⟩
              have HNS : Hid (Sl 0 3 W5 nv (ints (normL (d + 1) (t.map (ngR d))))) := hns
              have HB5 : Hid (Below wa.heap.size wa W5) := HBS.out.trans (hbn.mono HBS.out.size)
              clear hns hbn
              cases hnb : normB (d + 1) (t.map (ngR d))
              case false =>
                have HP0 : Hid (ptT R d t = none) := by show _ = _; unfold ptT; rw [hnb]; simp
                have HBX5 : Hid (Below w2.heap.size w2 W5) := HB.out.trans (HB5.out.mono hsza)
                have HQ1 : Hid (GtI d R A g C (k + 1) ov un) := HNX.out HP0.out
                clear hnb
                go_wp2
                go_roundw
                case rel => exact ⟨k + 1, ov, un, hlt, by go_num, rfl, rfl, HQ1.out,  HBX5.out⟩
                case measure => simp [intOf]; omega
              case true =>
                have HNB : Hid (normB (d + 1) (t.map (ngR d)) = true) := hnb
                obtain ⟨nb, no, nc, hnv, hnc, hxd⟩ := sl_cell HNS.out (k := d) (by rw [norm_len hnb]; omega)
                rw [norm_len hnb] at hnv
                subst hnv
                have HYD : Hid (ptY d t = if (normL (d + 1) (t.map (ngR d))).getD d 0 < 0 then (normL (d + 1) (t.map (ngR d))).map (fun z => -z) else normL (d + 1) (t.map (ngR d))) := rfl
                have HYL : Hid ((ptY d t).length = d + 1 ∧ ∀ z ∈ ptY d t, z.natAbs ≤ 1000000000000) := ⟨ptY_lenE hnb, ptY_bdE HTX.out⟩
                have HY4 : Hid (∀ z ∈ ptY d t, z.natAbs ≤ 311040000) := ptY_bd4 HTX.out hd
                have HNL : Hid ((normL (d + 1) (t.map (ngR d))).length = d + 1 ∧ ∀ z ∈ normL (d + 1) (t.map (ngR d)), z.natAbs ≤ 1000000000000) := ⟨norm_len hnb, norm_bd HTX.out⟩
                have HPT : Hid ((normL (d + 1) (t.map (ngR d))).getD d 0 ≠ 0 → ptT R d t = if ptK R d (ptY d t) = true then some (ptY d t) else none) := fun h0 => by
                  unfold ptT
                  by_cases hk : ptK R d (ptY d t) = true
                  · rw [if_pos ⟨hnb, h0, hk⟩, if_pos hk]
                  · rw [if_neg (fun h => hk h.2.2), if_neg hk]
                have HP00 : Hid ((normL (d + 1) (t.map (ngR d))).getD d 0 = 0 → ptT R d t = none) := fun h0 => by
                  unfold ptT
                  rw [if_neg (fun h => h.2.1 h0)]
                clear hnb
                generalize normL (d + 1) (t.map (ngR d)) = X at *
                generalize ptY d t = Y at *
                generalize X.getD d 0 = xd at *
                have hdI : (d : Int) < (d : Int) + 1 := by omega
                have hdI0 : (0 : Int) ≤ (d : Int) := by omega
                by_cases hx0 : xd = 0
                · subst hx0
                  have HP0 : Hid (ptT R d t = none) := HP00.out rfl
                  have HBX5 : Hid (Below w2.heap.size w2 W5) := HB.out.trans (HB5.out.mono hsza)
                  have HQ1 : Hid (GtI d R A g C (k + 1) ov un) := HNX.out HP0.out
                  go_wp2
                  go_roundw
                  case rel => exact ⟨k + 1, ov, un, hlt, by go_num, rfl, rfl, HQ1.out,  HBX5.out⟩
                  case measure => simp [intOf]; omega
                · have HPK := HPT.out hx0
                  have HPS : Hid (ptT R d t = if ptK R d Y = true then some Y else none) := HPK
                  have hxb : (xd == 0) = false := by simp [hx0]
                  clear HPK HPT HP00
                  by_cases hxn : xd < 0
                  case' pos =>
                    have HYE : Hid (Y = X.map fun z => -z) := by rw [if_pos hxn] at HYD; exact HYD
                    have hxnb : decide (xd < 0) = true := by simp [hxn]
                    go_wp2_with fail
                    refine (turned_any 0 X _ W5 HNS.out (by rw [HNL.out.1]; omega) (fun z hz => by have := HNL.out.2 z hz; omega)).mono ?_
                    rintro e W6 ⟨yv, rfl, hyo, hyb⟩
                    have HYO : Hid (Sl 0 3 W6 yv (ints Y)) := by rw [HYE.out]; exact Sl.own hyo
                    have HB6 : Hid (Below wa.heap.size wa W6) := HB5.out.trans (hyb.mono HB5.out.size)
                    clear hyo hyb hxd HYE
                    go_wp2
                  case' neg =>
                    have HYE : Hid (Y = X) := by rw [if_neg hxn] at HYD; exact HYD
                    have hxnb : decide (xd < 0) = false := by simp [hxn]
                    go_wp2
                    have HYV : Hid (Sl 0 3 W5 (.slice (some ⟨nb, no, none⟩) (d + 1) nc) (ints Y)) := by rw [HYE.out]; exact HNS.out
                    have HB6 : Hid (Below wa.heap.size wa W5) := HB5.out
                    clear hxd HYE HNS
                    generalize Value.slice (some (⟨nb, no, none⟩ : Addr)) (d + 1) nc = yv at *
                    obtain ⟨W6, rfl⟩ : ∃ W6, W6 = W5 := ⟨_, rfl⟩
                    have HYO : Hid (Sl 0 3 W6 yv (ints Y)) := HYV.out
                    clear HYV
                  all_goals
                    obtain ⟨yo, yc, hyv, _, _⟩ := sl_open HYO.out
                    rw [HYL.out.1] at hyv
                    subst hyv
                    obtain ⟨yb, yf, yc2, hy2, _, hyd⟩ := sl_cell HYO.out (k := d) (by rw [HYL.out.1]; omega)
                    rw [HYL.out.1] at hy2
                    simp only [Value.slice.injEq, true_and] at hy2
                    obtain ⟨rfl, rfl⟩ := hy2
                    have HYDC : Hid (∀ W, Qe W6 W → W.cell? ⟨yb, yf + d, none⟩ = some (.int .i64 (Y.getD d 0))) := fun W hq => by
                      obtain ⟨m, rfl⟩ := hq
                      exact hyd
                    have HYDB : Hid ((Y.getD d 0).natAbs ≤ 1000000000000) := HYL.out.2 _ (getD_mem (by rw [HYL.out.1]; omega))
                    have HBW6 : Hid (Below W0.heap.size W0 W6) := HBa.out.trans (HB6.out.mono HBa.out.size)
                    have HB16 : Hid (Below w1.heap.size w1 W6) := HB1a.out.trans (HB6.out.mono HB1a.out.size)
                    clear hyd
                    go_loopw [19, 20] (fun p i wq => ∃ j : Nat, j ≤ nr ∧ i = .int .i64 j ∧ p = .bool ((R.take j).all fun r => decide (dotL (r.take d) Y ≤ r.getD d 0 * Y.getD d 0)) ∧ Qe W6 wq) (fun _ i _ => nr - (intOf i).toNat)
                    case atStart => exact ⟨0, Nat.zero_le _, rfl, rfl, Qe.refl _⟩
                    case round =>
                      obtain ⟨j, hj, rfl, rfl, hqw⟩ := hrel
                      have HQ : Hid (Qe W6 wr) := hqw
                      have HBq : Hid (Below W0.heap.size W0 wr) := HBW6.out.trans hqw.below
                      have HB1q : Hid (Below w1.heap.size w1 wr) := HB16.out.trans hqw.below
                      have HB9 : Hid (Below wa.heap.size wa wr) := HB6.out.trans hqw.below
                      have hyd := HYDC.out wr hqw
                      obtain ⟨c0, c1⟩ := HC0.out wr HBq.out
                      have HPF : Hid (((R.take j).all fun r => decide (dotL (r.take d) Y ≤ r.getD d 0 * Y.getD d 0)) = false → ptK R d Y = false) := fun h => by
                        rw [List.all_eq_false] at h
                        obtain ⟨x, hx, hx2⟩ := h
                        unfold ptK
                        rw [List.all_eq_false]
                        exact ⟨x, List.mem_of_mem_take hx, hx2⟩
                      clear hqw
                      by_cases hjl : j < nr ∧ ((R.take j).all fun r => decide (dotL (r.take d) Y ≤ r.getD d 0 * Y.getD d 0)) = true
                      · obtain ⟨hjl, hpt⟩ := hjl
                        have hjR : j < R.length := by rw [← HNR.out]; exact hjl
                        obtain ⟨b4, o4, cp4, xv, hs4, _, hcc4, hx4⟩ := mat_cell (HRW.out wr HBq.out) hjR
                        rw [← HNR.out] at hs4
                        simp only [Value.slice.injEq, true_and] at hs4
                        obtain ⟨rfl, rfl⟩ := hs4
                        have hrb := HRBX.out (R.getD j []) (by simp [hjR])
                        obtain ⟨rb, rf, rc, hxv, hrc, hrd⟩ := sl_cell hx4 (k := d) (by rw [hrb.1]; omega)
                        have hx4' := hx4
                        rw [hxv] at hx4'
                        have htk := Sl.takeE (n := d) hx4' (by rw [hrb.1]; omega)
                        rw [hrb.1] at hxv hrc
                        subst hxv
                        have HTJ : Hid (((R.take (j + 1)).all fun r => decide (dotL (r.take d) Y ≤ r.getD d 0 * Y.getD d 0)) = decide (dotL ((R.getD j []).take d) Y ≤ (R.getD j []).getD d 0 * Y.getD d 0)) := by
                          show _ = _
                          have e : R.take (j + 1) = R.take j ++ [R.getD j []] := by rw [List.take_succ_eq_append_getElem hjR]; simp [hjR]
                          rw [e, List.all_append, hpt]
                          simp
                        have HDT : Hid (∀ m, Calls Try.prog 19 #[.slice (some ⟨rb, rf, none⟩) d rc, .slice (some ⟨yb, yf, none⟩) (d + 1) yc] (wr.drewN m) fun e w' => e = .returned (.int .i64 (dotL ((R.getD j []).take d) Y)) ∧ ∃ k, w' = (wr.drewN m).drewN k) := fun m => by
                          obtain ⟨m2, hm2⟩ := HQ.out
                          subst hm2
                          have hZ2 : Sl 0 3 (W6.drewN m2) (.slice (some ⟨yb, yf, none⟩) (d + 1) yc) (ints Y) := HYO.out.drewN m2
                          exact dotE_any _ _ Y _ _ _ (htk.drewN m) ((hZ2.drewN m).more (Nat.zero_le _)) ⟨by have := HYL.out.1; simp; omega, by simp; omega, fun z hz => by have := hrb.2 z (List.mem_of_mem_take hz); omega, HYL.out.2⟩
                        have hrdb := hrb.2 ((R.getD j []).getD d 0) (getD_mem (by rw [hrb.1]; omega))
                        have hpb : ((R.getD j []).getD d 0 * Y.getD d 0).natAbs ≤ 30 * 1000000000000 := by
                          rw [Int.natAbs_mul]
                          exact Nat.mul_le_mul (by omega) HYDB.out
                        rw [hpt]
                        clear hx4 hx4' htk hrb hrdb hjR hpt
                        generalize dotL ((R.getD j []).take d) Y = D at *
                        generalize (R.getD j []).getD d 0 = rd at *
                        generalize Y.getD d 0 = yd at *
                        have hjI : (j : Int) < (nr : Int) := by omega
                        have hjI0 : (0 : Int) ≤ (j : Int) := by omega
                        have hw1 : wrap64 (rd * yd) = rd * yd := IntWalk.wrap64_in _ ⟨by omega, by omega⟩
                        have hw2 : IntKind.i64.wrap (rd * yd) = rd * yd := by rw [IntWalk.i64_left]; exact hw1
                        have hdc : (d : Int) ≤ (rc : Int) := by omega
                        have hdc2 : d ≤ rc := by omega
                        clear hpb
                        go_wp2
                        go_quiet ((go_at_call 19; exact Calls.quiet_of (w := wr) (HDT.out _)))
                        go_wp2
                        exact ⟨⟨j + 1, hjl, by go_num, by rw [HTJ.out], HQ.out.drewN nq⟩, by simp [intOf]; omega⟩
                      · have HPE : Hid (((R.take j).all fun r => decide (dotL (r.take d) Y ≤ r.getD d 0 * Y.getD d 0)) = ptK R d Y) := by
                          show _ = _
                          cases hpt : ((R.take j).all fun r => decide (dotL (r.take d) Y ≤ r.getD d 0 * Y.getD d 0)) with
                          | false => exact (HPF.out hpt).symm
                          | true =>
                            have hjn : ¬ j < nr := fun h => hjl ⟨h, hpt⟩
                            rw [← hpt, List.take_of_length_le (show R.length ≤ j by rw [← HNR.out]; omega)]
                            rfl
                        have hjb : (decide ((j : Int) < (nr : Int)) && ((R.take j).all fun r => decide (dotL (r.take d) Y ≤ r.getD d 0 * Y.getD d 0))) = false := by
                          rw [Bool.eq_false_iff]
                          intro h
                          rw [Bool.and_eq_true, decide_eq_true_eq] at h
                          exact hjl ⟨by omega, h.2⟩
                        have HBX9 : Hid (Below w2.heap.size w2 wr) := HB.out.trans (HB9.out.mono hsza)
                        rw [HPE.out] at hjb ⊢
                        clear hjl HPF
                        generalize ptK R d Y = pb at *
                        have hsb := HST.out.bo
                        have hub := HST.out.bu
                        obtain ⟨mq, hmq⟩ := HQ.out
                        have HDG : Hid (Calls Try.prog 19 #[.slice go d gc, .slice (some ⟨yb, yf, none⟩) (d + 1) yc] wr fun e w' => e = .returned (.int .i64 (dotL g Y)) ∧ ∃ n, w' = wr.drewN n) := by
                          have hZ2 : Sl 0 3 wr (.slice (some ⟨yb, yf, none⟩) (d + 1) yc) (ints Y) := by rw [hmq]; exact HYO.out.drewN mq
                          exact dotE_any _ g Y _ _ _ (HGW.out wr HBq.out) (hZ2.more (Nat.zero_le _)) ⟨by rw [HGL.out, HYL.out.1]; omega, by rw [HGL.out]; omega, fun z hz => by have := HGB.out z hz; omega, HYL.out.2⟩
                        clear hmq
                        have hvb : (dotL g Y).natAbs ≤ 24883200000 := dot_bd4 (by rw [HGL.out]; exact hd) (by rw [HGL.out, HYL.out.1]; omega) HGB.out HY4.out
                        have hydb : (Y.getD d 0).natAbs ≤ 311040000 := HY4.out _ (getD_mem (by rw [HYL.out.1]; omega))
                        have hp1 : (dotL g Y * un).natAbs ≤ 24883200000 * 311040000 := by rw [Int.natAbs_mul]; exact Nat.mul_le_mul hvb hub
                        have hp2 : (ov * Y.getD d 0).natAbs ≤ 24883200000 * 311040000 := by rw [Int.natAbs_mul]; exact Nat.mul_le_mul hsb hydb
                        have hw1 : wrap64 (dotL g Y * un) = dotL g Y * un := IntWalk.wrap64_in _ ⟨by omega, by omega⟩
                        have hw2 : wrap64 (ov * Y.getD d 0) = ov * Y.getD d 0 := IntWalk.wrap64_in _ ⟨by omega, by omega⟩
                        have HUP : Hid (pb = true → (un = 0 ∨ ov * Y.getD d 0 < dotL g Y * un) → GtI d R A g C (k + 1) (dotL g Y) (Y.getD d 0)) := fun h1 h2 => (HHIT.out Y (by rw [HPS.out, if_pos h1])).1 hvb hydb h2
                        have HSTY : Hid (pb = true → ¬ (un = 0 ∨ ov * Y.getD d 0 < dotL g Y * un) → GtI d R A g C (k + 1) ov un) := fun h1 h2 => (HHIT.out Y (by rw [HPS.out, if_pos h1])).2 h2
                        have HNO : Hid (pb = false → GtI d R A g C (k + 1) ov un) := fun h => HNX.out (by rw [HPS.out, if_neg (by rw [h]; decide)])
                        clear hp1 hp2 hvb hydb HPS HHIT HNX hsb hub HPE
                        generalize dotL g Y = D at *
                        generalize Y.getD d 0 = yd at *
                        have HVW : Hid (∀ n, Below w2.heap.size w2 (wr.drewN n)) := fun n => HBX9.out.trans (Qe.below ⟨n, rfl⟩)
                        cases pb
                        case false =>
                          have HQ1 : Hid (GtI d R A g C (k + 1) ov un) := HNO.out rfl
                          clear HUP HSTY HNO
                          go_wp2_with fail
                          all_goals
                            refine HDG.out.mono ?_
                            rintro e wv ⟨rfl, nq, rfl⟩
                            go_wp2
                          all_goals exact ⟨⟨k + 1, ov, un, hlt, by go_num, rfl, rfl, HQ1.out, HVW.out _⟩, by simp [intOf]; omega⟩
                        case true =>
                          have hjb' : decide ((j : Int) < (nr : Int)) = false := by rw [Bool.and_true] at hjb; exact hjb
                          have hjn : ¬ (j : Int) < (nr : Int) := of_decide_eq_false hjb'
                          have hjn2 : decide (j < nr) = false := decide_eq_false (by omega)
                          clear hjb
                          by_cases hu0 : un = 0
                          · subst hu0
                            have HQ1 : Hid (GtI d R A g C (k + 1) D yd) := HUP.out rfl (Or.inl rfl)
                            clear HUP HSTY HNO
                            go_wp2_with fail
                            refine HDG.out.mono ?_
                            rintro e wv ⟨rfl, nq, rfl⟩
                            go_wp2
                            all_goals exact ⟨⟨k + 1, D, yd, hlt, by go_num, rfl, rfl, HQ1.out, HVW.out _⟩, by simp [intOf]; omega⟩
                          · have hub0 : (un == 0) = false := by simp [hu0]
                            by_cases hc : ov * yd < D * un
                            · have HQ1 : Hid (GtI d R A g C (k + 1) D yd) := HUP.out rfl (Or.inr hc)
                              clear HUP HSTY HNO
                              go_wp2_with fail
                              refine HDG.out.mono ?_
                              rintro e wv ⟨rfl, nq, rfl⟩
                              go_wp2
                              all_goals exact ⟨⟨k + 1, D, yd, hlt, by go_num, rfl, rfl, HQ1.out, HVW.out _⟩, by simp [intOf]; omega⟩
                            · have HQ1 : Hid (GtI d R A g C (k + 1) ov un) := HSTY.out rfl (fun h => h.elim hu0 hc)
                              have hcb : decide (ov * yd < D * un) = false := decide_eq_false hc
                              clear HUP HSTY HNO
                              go_wp2_with fail
                              refine HDG.out.mono ?_
                              rintro e wv ⟨rfl, nq, rfl⟩
                              go_wp2
                              all_goals exact ⟨⟨k + 1, ov, un, hlt, by go_num, rfl, rfl, HQ1.out, HVW.out _⟩, by simp [intOf]; omega⟩
        · obtain rfl : k = C.length := by omega
          have HG1 : Hid (low [ov, un] = [a, b]) := by
            have h := HDE.out
            rw [HST.out.is] at h
            exact h
          have HBW : Hid (Below w.heap.size w wa) := HB0.out.trans (HBa.out.mono HB0.out.size)
          have hob := HST.out.bo
          have hub := HST.out.bu
          have HLW : Hid (Calls Try.prog 20 #[.slice (some ⟨wa.heap.size, 0, none⟩) 2 2] (wa.alloc (.cells #[.int .i64 ov, .int .i64 un] 3)) fun e w' => ∃ u, e = .returned u ∧ w'.ownsRow (wa.heap.size + 1) 3 1 u 2 (ints [a, b]) ∧ Below wa.heap.size wa w') := by
            refine (lowered_any 0 [ov, un] _ _ (twoE (w := wa)) (by simp) (fun z hz => ?_)).mono ?_
            · simp only [List.mem_cons, List.not_mem_nil, or_false] at hz
              rcases hz with rfl | rfl <;> omega
            · rintro e w' ⟨u, rfl, ho, hb⟩
              rw [HG1.out, size_alloc] at ho
              exact ⟨u, rfl, ho, (alloc_keep wa _).trans (hb.mono (by rw [size_alloc]; omega))⟩
          clear hob hub
          go_wp2_with fail
          refine HLW.out.mono ?_
          rintro e w5 ⟨u, rfl, ho, hb5⟩
          obtain ⟨qb, qc, rfl, _, q0, q1⟩ := two_cellsE ho
          have HB5 : Hid (Below w.heap.size w w5) := HBW.out.trans (hb5.mono HBW.out.size)
          clear ho hb5
          go_wp2
          go_region
          go_wp2
          exact bodyPost_ret (v := .tuple #[.int .i64 a, .int .i64 b]) (by simp [results, Try.results6, go_sem]) rfl ⟨rfl, HB5.out.drew⟩

end Go.Proofs.Ytdmkmljhljoojaa
