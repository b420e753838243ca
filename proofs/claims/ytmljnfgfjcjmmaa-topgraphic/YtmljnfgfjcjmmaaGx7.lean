/- STANLEY: the law. -/
import Derived.Test.YtmljnfgfjcjmmaaGxC
import Derived.Test.YtmljnfgfjcjmmaaWiA
namespace Go.Proofs.Ytmljnfgfjcjmmaa
open Go.RowKit Lin
attribute [local go_sem ↓] Go.wp_at_zero Go.wp_at_succ

theorem arr_row {w : World} {c : Array Value} {l : List Int} (h : c.toList = ints l) (hl : l.length ≤ 100) : Sl 0 3 (w.alloc (.cells c 3)) (.slice (some ⟨w.heap.size, 0, none⟩) l.length l.length) (ints l) := by
  have hs : c.size = l.length := by rw [← Array.length_toList, h]; simp
  have hgrow : (w.alloc (.cells c 3)).rowIs w.heap.size 3 l.length (fun j => .int .i64 (l.getD j 0)) := by
    refine ⟨_, alloc_new w (.cells c 3), hs, fun i hi => ?_⟩
    rw [← Array.getElem?_toList, h, ints_get _ _ hi]
  exact Sl.row' hgrow (by unfold maxLen; omega) (by simp) (fun i hi => by rw [ints_get _ _ hi])

theorem gx_row {w : World} {n a b : Nat} (hn : 2 ≤ n) (hn4 : n ≤ 4) (ha : a < n) (hb : b < n) (hab : a ≠ b) : Sl 0 3 (w.alloc (.cells ((((madeCells #[.int .i64 0] n).setIfInBounds a (.int .i64 1)).setIfInBounds b (.int .i64 (-1))).setIfInBounds (n - 1) (.int .i64 0)) 3)) (.slice (some ⟨w.heap.size, 0, none⟩) n n) (ints (gxR n a b)) := by
  have h := arr_row (w := w) (c := (((madeCells #[.int .i64 0] n).setIfInBounds a (.int .i64 1)).setIfInBounds b (.int .i64 (-1))).setIfInBounds (n - 1) (.int .i64 0)) (l := gxR n a b) (by
    rw [← gx_made hn ha hb hab, Array.toList_setIfInBounds, Array.toList_setIfInBounds, Array.toList_setIfInBounds, toList_madeCells_one]
    simp [ints, List.map_set]) (by rw [gxR_len]; omega)
  rw [gxR_len] at h
  exact h

theorem inv_cells {w : World} {B : Nat} {v : Value} {es : List (Nat × Nat)} (h : Eds B w v es) : ∃ po pc, v = .slice po es.length pc := by
  obtain ⟨po, pc, h, _⟩ := h
  exact ⟨po, pc, h⟩

theorem whC_bdG {d : Nat} {P : List (List Int)} (h6 : P.length ≤ 6) : ∀ z ∈ (List.range (d + 1)).map (whC d P), z.natAbs ≤ 64 := fun z hz => by
  obtain ⟨j, _, rfl⟩ := List.mem_map.1 hz
  unfold whC
  refine Nat.le_trans (sumN_abs fun s _ => ?_) (Nat.le_trans (Nat.pow_le_pow_right (by decide) h6) (by decide))
  split
  · rw [Int.natAbs_mul, sg_abs]
    split <;> decide
  · decide

theorem shl_sm {k : Nat} (hk : k ≤ 6) : wrap64 ((2 : Int) ^ k) = ((2 ^ k : Nat) : Int) := by
  rcases (show k = 0 ∨ k = 1 ∨ k = 2 ∨ k = 3 ∨ k = 4 ∨ k = 5 ∨ k = 6 by omega) with rfl | rfl | rfl | rfl | rfl | rfl | rfl <;> decide +kernel

/-- How many of the first turns have no ring. -/
def tw (n : Nat) (ks : List (Nat × Nat)) (s : Nat) : Nat := ((List.range s).filter fun t => acB n (ortL ks t)).length

theorem tw_succ (n : Nat) (ks : List (Nat × Nat)) (s : Nat) : tw n ks (s + 1) = tw n ks s + if acB n (ortL ks s) then 1 else 0 := by
  unfold tw
  rw [List.range_succ, List.filter_append, List.length_append]
  cases h : acB n (ortL ks s) <;> simp [h]

theorem tw_le (n : Nat) (ks : List (Nat × Nat)) (s : Nat) : tw n ks s ≤ s := by
  unfold tw
  exact Nat.le_trans (List.length_filter_le _ _) (by simp)

set_option maxRecDepth 100000 in
set_option maxHeartbeats 8000000 in
theorem topGraphic_any (raw : List Int) (nodes many q : Int) (v : Value) (w : World) (hv : Sl w.heap.size 3 w v (ints raw)) (hr : ∀ z ∈ raw, In64 z) (hn : In64 nodes) (hm : In64 many) (hq : In64 q) :
    Calls Try.prog 3 #[v, .int .i64 nodes, .int .i64 many, .int .i64 q] w fun e w' => e = .returned (.bool true) ∧ Below w.heap.size w w' := by
  obtain ⟨i3, hi3, hz30, hz31, hz32⟩ := info_parts Try.info3
  obtain ⟨i0, hi0, hz0, hz1, hz2⟩ := info_parts Try.info22
  obtain ⟨i2, hi2, hz20, hz21, hz22⟩ := info_parts infoE2
  obtain ⟨lo, lc, hvv, hlc, hcm⟩ := sl_open hv
  subst hvv
  by_cases hbig : 256 < raw.length
  · have hbI : (256 : Int) < (raw.length : Int) := by omega
    clear hv hr hn hm hq
    go_enter Try.func3, Try.ntmps3
    go_wp2
    go_ret
    exact ⟨rfl, Below.refl _ _⟩
  · have hbI : ¬ (256 : Int) < (raw.length : Int) := by omega
    have HPK : Hid (∀ W' z (k : Nat), In64 z → 1 ≤ k → k ≤ 100 → ∃ a : Nat, a < k ∧ Calls Try.prog 4 #[.int .i64 z, .int .i64 k] W' fun e w' => e = .returned (.int .i64 a) ∧ w' = W') := fun W' z k hz hk hk2 => by
      obtain ⟨k1, k2⟩ := pickF_bd (c := z) (n := (k : Int)) (by omega)
      refine ⟨(pickF z k).toNat, by omega, ?_⟩
      rw [Int.toNat_of_nonneg k1]
      exact pick_val z k W' (by omega) (by omega) hz
    obtain ⟨n0, hn0, hc0⟩ := HPK.out w nodes 3 hn (by omega) (by omega)
    obtain ⟨m, hm7, hc1⟩ := HPK.out w many 7 hm (by omega) (by omega)
    have HP0 : Hid (Calls Try.prog 4 #[.int .i64 nodes, .int .i64 3] w fun e w' => e = .returned (.int .i64 n0) ∧ w' = w) := hc0
    have HP1 : Hid (Calls Try.prog 4 #[.int .i64 many, .int .i64 7] w fun e w' => e = .returned (.int .i64 m) ∧ w' = w) := hc1
    obtain ⟨n, hnn⟩ : ∃ n : Nat, n = 2 + n0 := ⟨_, rfl⟩
    have hnw : IntKind.i64.wrap (2 + (n0 : Int)) = (n : Int) := by
      rw [show (2 + (n0 : Int)) = (n : Int) by omega]; exact wrap_small (by omega)
    have hn2 : 2 ≤ n := by omega
    have hn4 : n ≤ 4 := by omega
    have HGE : Hid (Calls Try.prog 5 #[.slice lo raw.length lc, .int .i64 0, .int .i64 (n : Int), .int .i64 (m : Int)] w fun e w' => ∃ u es, e = .returned u ∧ es.length = m ∧ (∀ e ∈ es, e.1 < n ∧ e.2 < n) ∧ Eds w'.heap.size w' u es ∧ Below w.heap.size w w') := graphEdgesL_any n m raw _ w hv hr (by omega) (by omega) (by omega) (by omega)
    have HQ : Hid (In64 q) := hq
    clear hv hr hn hm hq hc0 hc1 hnn
    go_enter Try.func3, Try.ntmps3
    go_wp2_with fail
    refine HP0.out.mono ?_
    rintro e wx ⟨rfl, hwx⟩
    obtain rfl := hwx.symm
    go_wp2_with fail
    refine HP1.out.mono ?_
    rintro e wx ⟨rfl, hwx⟩
    obtain rfl := hwx.symm
    go_wp2_with fail
    refine HGE.out.mono ?_
    rintro e w1 ⟨u, es, rfl, hel, hes, hed, hb1⟩
    obtain ⟨q0, hq4, hcq⟩ := HPK.out w1 q 4 HQ.out (by omega) (by omega)
    have HP2 : Hid (Calls Try.prog 4 #[.int .i64 q, .int .i64 4] w1 fun e w' => e = .returned (.int .i64 q0) ∧ w' = w1) := hcq
    obtain ⟨qn, hqn⟩ : ∃ qn : Nat, qn = 1 + q0 := ⟨_, rfl⟩
    have hqw : IntKind.i64.wrap (1 + (q0 : Int)) = (qn : Int) := by
      rw [show (1 + (q0 : Int)) = (qn : Int) by omega]; exact wrap_small (by omega)
    have hq1 : 1 ≤ qn := by omega
    have hq5 : qn ≤ 4 := by omega
    have HES : Hid (∀ e ∈ es, e.1 < n ∧ e.2 < n) := hes
    have HED : Hid (Eds w1.heap.size w1 u es) := hed
    have HB1 : Hid (Below w.heap.size w w1) := hb1
    obtain ⟨ao, ac, hu⟩ := inv_cells hed
    subst hu
    clear hes hed hb1 hcq hqn HPK HP0 HP1 HGE HQ
    go_wp2_with fail
    refine HP2.out.mono ?_
    rintro e wx ⟨rfl, hwx⟩
    obtain rfl := hwx.symm
    clear HP2
    go_wp2
    go_loopw [10, 11, 12, 13, 14, 15, 16, 17] (fun ev pv iv _ _ _ _ _ wr => ∃ (i : Nat) (ks : List (Nat × Nat)), i ≤ es.length ∧ iv = .int .i64 i ∧ ks.length ≤ i ∧ (∀ e ∈ ks, e.1 < n ∧ e.2 < n ∧ e.1 ≠ e.2) ∧ Dpl n ks ∧ Gs n w1 wr ev pv ks) (fun _ _ iv _ _ _ _ _ _ => es.length - (intOf iv).toNat)
    case atStart => exact ⟨0, [], Nat.zero_le _, rfl, Nat.le_refl _, fun e he => by simp at he, fun i k h1 h2 => absurd h2 (by simp), Gs.nil _ _⟩
    case round =>
      obtain ⟨i, ks, hi, rfl, hki, hks, hdp, hgs⟩ := hrel
      have hG : Hid (Gs n w1 wr u10 u11 ks) := hgs
      have HKS : Hid (∀ e ∈ ks, e.1 < n ∧ e.2 < n ∧ e.1 ≠ e.2) := hks
      have HDP : Hid (Dpl n ks) := hdp
      have hszr : w1.heap.size ≤ wr.heap.size := hgs.bel.size
      obtain ⟨vs, q1, q2, q3⟩ := hgs.opens
      obtain ⟨po, pc, hpv⟩ := owns_form q2
      subst hpv
      have HV1 : Hid (vs.length = ks.length) := q1
      have HV2 : Hid (wr.ownsRow w1.heap.size 22 1 (.slice po ks.length pc) ks.length vs) := q2
      have HV3 : Hid (∀ i, i < ks.length → Sl 0 3 wr (vs.getD i (.slice none 0 0)) (ints (gxR n (ks.getD i (0, 0)).1 (ks.getD i (0, 0)).2))) := q3
      have HB2 : Hid (Below w1.heap.size w1 wr) := hgs.bel
      clear hgs hks hdp q1 q2 q3
      by_cases hlt : i < es.length
      · obtain ⟨po2, pc2, he2, hcs⟩ := HED.out
        simp only [Value.slice.injEq, true_and] at he2
        obtain ⟨rfl, rfl⟩ := he2
        obtain ⟨eb, eo, e1, hebl, c1, c2⟩ := hcs i hlt
        subst e1
        obtain ⟨ha, hb⟩ := HES.out _ (pair_mem hlt)
        have HCE : Hid (∀ X, Below w1.heap.size w1 X → X.cell? ⟨eb, eo + i * 2, none⟩ = some (.int .i64 (es.getD i (0, 0)).1) ∧ X.cell? ⟨eb, eo + i * 2 + 1, none⟩ = some (.int .i64 (es.getD i (0, 0)).2)) := fun X hX => ⟨(hX.cell (lt_of_cell c1)).trans c1, (hX.cell (lt_of_cell c2)).trans c2⟩
        clear c1 c2 hcs
        obtain ⟨c1, c2⟩ := HCE.out wr HB2.out
        generalize (es.getD i (0, 0)).1 = a at *
        generalize (es.getD i (0, 0)).2 = b at *
        have iI : (i : Int) < (es.length : Int) := by omega
        have iI0 : (0 : Int) ≤ (i : Int) := by omega
        have nI0 : (0 : Int) ≤ (n : Int) := by omega
        have aI : (a : Int) < (n : Int) := by omega
        have aI0 : (0 : Int) ≤ (a : Int) := by omega
        have bI : (b : Int) < (n : Int) := by omega
        have bI0 : (0 : Int) ≤ (b : Int) := by omega
        have y0 : IntKind.i64.wrap (0 + 1) = 1 := by decide
        have y1 : IntKind.i64.wrap (0 - 1) = -1 := by decide
        have y2 : IntKind.i64.wrap (1 - 1) = 0 := by decide
        have hmc : (madeCells #[.int .i64 0] n)[a]? = some (.int .i64 0) := by
          rw [← Array.getElem?_toList, toList_madeCells_one, List.getElem?_replicate, if_pos ha]
        have hmk := run_make_row' (P := Try.prog) 22 3 (.int .i64 0) 8 Try.underlying22 Try.info3 rfl .i64 .i64 n (by omega) (by omega)
        by_cases hab : a = b
        · subst hab
          have hmd : ((madeCells #[.int .i64 0] n).setIfInBounds a (.int .i64 1))[a]? = some (.int .i64 1) := by
            rw [Array.getElem?_setIfInBounds, if_pos rfl, if_pos]
            exact (Array.getElem?_eq_some_iff.1 hmc).1
          have hbb : ((a : Int) == (a : Int)) = true := by simp
          have HGN : Hid (∀ o, Gs n w1 (wr.alloc o) u10 (.slice po ks.length pc) ks) := fun o => hG.out.next (alloc_keep _ _)
          clear HED HES
          go_wp2_with fail
          exact ⟨⟨i + 1, ks, by omega, by go_num, by omega, HKS.out, HDP.out, HGN.out _⟩, by simp [intOf]; omega⟩
        · have hmd : ((madeCells #[.int .i64 0] n).setIfInBounds a (.int .i64 1))[b]? = some (.int .i64 0) := by
            rw [Array.getElem?_setIfInBounds, if_neg hab, ← Array.getElem?_toList, toList_madeCells_one, List.getElem?_replicate, if_pos hb]
          have hbb : ((a : Int) == (b : Int)) = false := by rw [beq_eq_false_iff_ne]; omega
          obtain ⟨n1, hn1⟩ : ∃ n1 : Nat, n1 = n - 1 := ⟨_, rfl⟩
          have n1w : IntKind.i64.wrap ((n : Int) - 1) = (n1 : Int) := by
            rw [show ((n : Int) - 1) = (n1 : Int) by omega]; exact wrap_small (by omega)
          have n1I : (n1 : Int) < (n : Int) := by omega
          have n1I0 : (0 : Int) ≤ (n1 : Int) := by omega
          obtain ⟨W3, hW3⟩ : ∃ W3, W3 = wr.alloc (.cells ((((madeCells #[.int .i64 0] n).setIfInBounds a (.int .i64 1)).setIfInBounds b (.int .i64 (-1))).setIfInBounds n1 (.int .i64 0)) 3) := ⟨_, rfl⟩
          have HX : Hid (Sl 0 3 W3 (.slice (some ⟨wr.heap.size, 0, none⟩) n n) (ints (gxR n a b))) := by rw [hW3, hn1]; exact gx_row hn2 hn4 ha hb hab
          have HB3 : Hid (Below wr.heap.size wr W3) := by rw [hW3]; exact alloc_keep _ _
          have HG3 : Hid (Gs n w1 W3 u10 (.slice po ks.length pc) ks) := hG.out.next HB3.out
          have HROW : Hid (∀ k, k < ks.length → ∃ g o r c, po = some ⟨g, o, none⟩ ∧ ∀ X, Below W3.heap.size W3 X → X.cell? ⟨g, o + k, none⟩ = some (.slice r n c) ∧ Sl 0 3 X (.slice r n c) (ints (gxR n (ks.getD k (0, 0)).1 (ks.getD k (0, 0)).2))) := fun k hk => by
            have hm : Mat 0 22 3 W3 (.slice po ks.length pc) (gxP n ks) := fr_matE HG3.out.p
            obtain ⟨g, o, cap, u, rc, _, h2, h3⟩ := mat_cell hm (k := k) (by rw [gxP_len]; exact hk)
            simp only [Value.slice.injEq] at rc
            rw [gxP_get hk] at h3
            obtain ⟨r, c, hu, _, _⟩ := sl_open h3
            rw [gxR_len] at hu
            subst hu
            exact ⟨g, o, r, c, rc.1, fun X hX => ⟨(hX.cell (lt_of_cell h2)).trans h2, h3.below hX (Nat.le_refl _)⟩⟩
          obtain ⟨x, hx⟩ : ∃ x, x = gxR n a b := ⟨_, rfl⟩
          have HXN : Hid (x.length = n ∧ ∀ z ∈ x, z.natAbs ≤ 1) := by rw [hx]; exact ⟨gxR_len _ _ _, gxR_small _ _ _⟩
          rw [← hx] at HX
          have HXE : Hid (x = gxR n a b) := hx
          have HSM : Hid (∀ k, k < ks.length → smB (gxP n ks) x (k + 1) = (smB (gxP n ks) x k || (gxR n (ks.getD k (0, 0)).1 (ks.getD k (0, 0)).2 == x || gxR n (ks.getD k (0, 0)).1 (ks.getD k (0, 0)).2 == x.map fun z => -z))) := fun k hk => by
            rw [smB_succ (by rw [gxP_len]; exact hk), gxP_get hk]
          have HS0 : Hid (smB (gxP n ks) x 0 = false) := rfl
          obtain ⟨pb, hpb⟩ : ∃ pb, pb = wr.heap.size := ⟨_, rfl⟩
          rw [← hpb] at HX
          have HABN : Hid (a ≠ b) := hab
          obtain ⟨z0, hme⟩ : ∃ z0, (((madeCells #[.int .i64 0] n).setIfInBounds a (.int .i64 1)).setIfInBounds b (.int .i64 (-1)))[n1]? = some z0 := by
            refine ⟨_, Array.getElem?_eq_getElem ?_⟩
            simp only [Array.size_setIfInBounds]
            rw [← Array.length_toList, toList_madeCells_one, List.length_replicate]
            omega
          clear HES hx hab hn1
          go_wp2
          rw [← hpb, ← hW3]
          have HPB : Hid (pb = wr.heap.size) := hpb
          clear hmk hmc hmd hme hW3 hpb
          generalize decide (i < m) = dm
          go_loopw [16, 17] (fun sv kv wq => ∃ k : Nat, k ≤ ks.length ∧ kv = .int .i64 k ∧ sv = .bool (smB (gxP n ks) x k) ∧ Below W3.heap.size W3 wq) (fun _ kv _ => ks.length - (intOf kv).toNat)
          case atStart => exact ⟨0, Nat.zero_le _, rfl, by rw [HS0.out], Below.refl _ _⟩
          case round =>
            obtain ⟨k, hk, rfl, rfl, hbel⟩ := hrel
            by_cases hlk : k < ks.length
            · obtain ⟨wz, rfl⟩ : ∃ wz, wz = wr := ⟨_, rfl⟩
              have HBQ : Hid (Below W3.heap.size W3 wz) := hbel
              obtain ⟨g, o, r, c, hpo, hcx⟩ := HROW.out k hlk
              subst hpo
              obtain ⟨hck, hrk⟩ := hcx wz hbel
              have HCX : Hid (∀ X, Below W3.heap.size W3 X → X.cell? ⟨g, o + k, none⟩ = some (.slice r n c) ∧ Sl 0 3 X (.slice r n c) (ints (gxR n (ks.getD k (0, 0)).1 (ks.getD k (0, 0)).2))) := hcx
              have HS1 : Hid (smB (gxP n ks) x (k + 1) = (smB (gxP n ks) x k || (gxR n (ks.getD k (0, 0)).1 (ks.getD k (0, 0)).2 == x || gxR n (ks.getD k (0, 0)).1 (ks.getD k (0, 0)).2 == x.map fun z => -z))) := HSM.out k hlk
              have kI : (k : Int) < (ks.length : Int) := by omega
              have kI0 : (0 : Int) ≤ (k : Int) := by omega
              generalize gxR n (ks.getD k (0, 0)).1 (ks.getD k (0, 0)).2 = y at *
              obtain ⟨s2, hs2⟩ : ∃ s2, s2 = smB (gxP n ks) x (k + 1) := ⟨_, rfl⟩
              rw [← hs2] at HS1
              have HSE : Hid (s2 = smB (gxP n ks) x (k + 1)) := hs2
              clear hs2
              generalize smB (gxP n ks) x k = sm at *
              clear hbel hcx hrk
              go_upto_region 22 with fail
              refine wp_region_held_drew (S := fun X => X.cell? ⟨g, o + k, none⟩ = some (.slice r n c)) (by kernel_rfl) hck (fun hHeld => ?_)
              clear hck
              cases sm with
              | true =>
                have HS2 : Hid (s2 = true) := HS1.out
                refine wpAnyH_tk (i := 0) (d := 88) (v := (.bool true)) rfl rfl (by kernel_rfl) (by kernel_rfl) (by kernel_rfl) (fun _ _ _ h => h) (.inl ⟨by rfl, by (intro wq hSw; (try dsimp only at hSw); go_simp; (try (first | rfl | omega)))⟩) hHeld ?_
                simp only [Act.put, List.setIfInBounds_toArray, List.set_cons_zero, List.set_cons_succ]
                refine wpAnyH_tk (i := 1) (d := 89) (v := (.bool true)) rfl rfl (by kernel_rfl) (by kernel_rfl) (by kernel_rfl) (fun _ _ _ h => h) (.inl ⟨by rfl, by (intro wq hSw; (try dsimp only at hSw); go_simp; (try (first | rfl | omega)))⟩) hHeld ?_
                simp only [Act.put, List.setIfInBounds_toArray, List.set_cons_zero, List.set_cons_succ]
                refine wpAnyH_tk (i := 2) (d := 90) (v := undef) rfl rfl (by kernel_rfl) (by kernel_rfl) (by kernel_rfl) (fun _ _ _ h => h) (.inr ⟨by rfl, rfl⟩) hHeld ?_
                simp only [Act.put, List.setIfInBounds_toArray, List.set_cons_zero, List.set_cons_succ]
                refine wpAnyH_tk (i := 3) (d := 91) (v := undef) rfl rfl (by kernel_rfl) (by kernel_rfl) (by kernel_rfl) (fun _ _ _ h => h) (.inr ⟨by rfl, rfl⟩) hHeld ?_
                simp only [Act.put, List.setIfInBounds_toArray, List.set_cons_zero, List.set_cons_succ]
                refine wpAnyH_tk (i := 4) (d := 92) (v := undef) rfl rfl (by kernel_rfl) (by kernel_rfl) (by kernel_rfl) (fun _ _ _ h => h) (.inr ⟨by rfl, rfl⟩) hHeld ?_
                simp only [Act.put, List.setIfInBounds_toArray, List.set_cons_zero, List.set_cons_succ]
                refine wpAnyH_tk (i := 5) (d := 93) (v := undef) rfl rfl (by kernel_rfl) (by kernel_rfl) (by kernel_rfl) (fun _ _ _ h => h) (.inr ⟨by rfl, rfl⟩) hHeld ?_
                simp only [Act.put, List.setIfInBounds_toArray, List.set_cons_zero, List.set_cons_succ]
                refine wpAnyH_tk (i := 6) (d := 94) (v := undef) rfl rfl (by kernel_rfl) (by kernel_rfl) (by kernel_rfl) (fun _ _ _ h => h) (.inr ⟨by rfl, rfl⟩) hHeld ?_
                simp only [Act.put, List.setIfInBounds_toArray, List.set_cons_zero, List.set_cons_succ]
                refine wpAnyH_tk (i := 7) (d := 95) (v := undef) rfl rfl (by kernel_rfl) (by kernel_rfl) (by kernel_rfl) (fun _ _ _ h => h) (.inr ⟨by rfl, rfl⟩) hHeld ?_
                simp only [Act.put, List.setIfInBounds_toArray, List.set_cons_zero, List.set_cons_succ]
                refine wpAnyH_tk (i := 8) (d := 96) (v := (.bool true)) rfl rfl (by kernel_rfl) (by kernel_rfl) (by kernel_rfl) (fun _ _ _ h => h) (.inl ⟨by rfl, by (intro wq hSw; (try dsimp only at hSw); go_simp; (try (first | rfl | omega)))⟩) hHeld ?_
                simp only [Act.put, List.setIfInBounds_toArray, List.set_cons_zero, List.set_cons_succ]
                refine wpAnyH_tk (i := 9) (d := 97) (v := (.bool true)) rfl rfl (by kernel_rfl) (by kernel_rfl) (by kernel_rfl) (fun _ _ _ h => h) (.inl ⟨by rfl, by (intro wq hSw; (try dsimp only at hSw); go_simp; (try (first | rfl | omega)))⟩) hHeld ?_
                simp only [Act.put, List.setIfInBounds_toArray, List.set_cons_zero, List.set_cons_succ]
                refine wpAnyH_tk (i := 10) (d := 98) (v := undef) rfl rfl (by kernel_rfl) (by kernel_rfl) (by kernel_rfl) (fun _ _ _ h => h) (.inr ⟨by rfl, rfl⟩) hHeld ?_
                simp only [Act.put, List.setIfInBounds_toArray, List.set_cons_zero, List.set_cons_succ]
                refine wpAnyH_tk (i := 11) (d := 99) (v := undef) rfl rfl (by kernel_rfl) (by kernel_rfl) (by kernel_rfl) (fun _ _ _ h => h) (.inr ⟨by rfl, rfl⟩) hHeld ?_
                simp only [Act.put, List.setIfInBounds_toArray, List.set_cons_zero, List.set_cons_succ]
                refine wpAnyH_tk (i := 12) (d := 100) (v := undef) rfl rfl (by kernel_rfl) (by kernel_rfl) (by kernel_rfl) (fun _ _ _ h => h) (.inr ⟨by rfl, rfl⟩) hHeld ?_
                simp only [Act.put, List.setIfInBounds_toArray, List.set_cons_zero, List.set_cons_succ]
                refine wpAnyH_tk (i := 13) (d := 101) (v := undef) rfl rfl (by kernel_rfl) (by kernel_rfl) (by kernel_rfl) (fun _ _ _ h => h) (.inr ⟨by rfl, rfl⟩) hHeld ?_
                simp only [Act.put, List.setIfInBounds_toArray, List.set_cons_zero, List.set_cons_succ]
                refine wpAnyH_tk (i := 14) (d := 102) (v := undef) rfl rfl (by kernel_rfl) (by kernel_rfl) (by kernel_rfl) (fun _ _ _ h => h) (.inr ⟨by rfl, rfl⟩) hHeld ?_
                simp only [Act.put, List.setIfInBounds_toArray, List.set_cons_zero, List.set_cons_succ]
                refine wpAnyH_tk (i := 15) (d := 103) (v := undef) rfl rfl (by kernel_rfl) (by kernel_rfl) (by kernel_rfl) (fun _ _ _ h => h) (.inr ⟨by rfl, rfl⟩) hHeld ?_
                simp only [Act.put, List.setIfInBounds_toArray, List.set_cons_zero, List.set_cons_succ]
                refine wpAnyH_tk (i := 16) (d := 104) (v := undef) rfl rfl (by kernel_rfl) (by kernel_rfl) (by kernel_rfl) (fun _ _ _ h => h) (.inr ⟨by rfl, rfl⟩) hHeld ?_
                simp only [Act.put, List.setIfInBounds_toArray, List.set_cons_zero, List.set_cons_succ]
                refine wpAnyH_tk (i := 17) (d := 105) (v := (.bool true)) rfl rfl (by kernel_rfl) (by kernel_rfl) (by kernel_rfl) (fun _ _ _ h => h) (.inl ⟨by rfl, by (intro wq hSw; (try dsimp only at hSw); go_simp; (try (first | rfl | omega)))⟩) hHeld ?_
                simp only [Act.put, List.setIfInBounds_toArray, List.set_cons_zero, List.set_cons_succ]
                refine wpAnyH_tk (i := 18) (d := 16) (v := (.bool true)) rfl rfl (by kernel_rfl) (by kernel_rfl) (by kernel_rfl) (fun _ _ _ h => h) (.inl ⟨by rfl, by (intro wq hSw; (try dsimp only at hSw); go_simp; (try (first | rfl | omega)))⟩) hHeld ?_
                simp only [Act.put, List.setIfInBounds_toArray, List.set_cons_zero, List.set_cons_succ]
                refine wpAnyH_done (by kernel_rfl) ?_ _
                clear hHeld
                go_wp2
                exact ⟨⟨k + 1, by omega, by go_num, by rw [← HSE.out, HS2.out], Below.drew HBQ.out⟩, by simp [intOf]; omega⟩
              | false =>
                have HSX : Hid (s2 = (y == x || y == x.map fun z => -z)) := HS1.out
                have HXS : Hid (∀ X, Below W3.heap.size W3 X → Sl 0 3 X (.slice (some ⟨pb, 0, none⟩) n n) (ints x)) := fun X hX => HX.out.below hX (Nat.le_refl _)
                have HC1 : Hid (Calls Try.prog 6 #[.slice r n c, .slice (some ⟨pb, 0, none⟩) n n] wz.drew fun e w' => e = .returned (.bool (y == x)) ∧ ∃ t, w' = wz.drew.drewN t) := same_any 0 y x _ _ _ (HCX.out _ (Below.drew HBQ.out)).2 (HXS.out _ (Below.drew HBQ.out))
                have HC2 : Hid (∀ X, Below W3.heap.size W3 X → Calls Try.prog 7 #[.slice (some ⟨pb, 0, none⟩) n n] X fun e w' => ∃ uo uc, e = .returned (.slice uo n uc) ∧ Sl 0 3 w' (.slice uo n uc) (ints (x.map fun z => -z)) ∧ Below X.heap.size X w') := fun X hX => by
                  refine (turned_any 0 x _ X (HXS.out X hX) (by rw [HXN.out.1]; omega) (fun z hz => by have := HXN.out.2 z hz; omega)).mono ?_
                  rintro e w' ⟨u, rfl, ho, hb⟩
                  rw [HXN.out.1] at ho
                  obtain ⟨uo, uc, rfl⟩ := owns_form ho
                  exact ⟨uo, uc, rfl, Sl.own ho, hb⟩
                clear HS1
                refine wpAnyH_tk (i := 0) (d := 88) (v := (.bool false)) rfl rfl (by kernel_rfl) (by kernel_rfl) (by kernel_rfl) (fun _ _ _ h => h) (.inl ⟨by rfl, by (intro wq hSw; (try dsimp only at hSw); go_simp; (try (first | rfl | omega)))⟩) hHeld ?_
                simp only [Act.put, List.setIfInBounds_toArray, List.set_cons_zero, List.set_cons_succ]
                refine wpAnyH_tk (i := 1) (d := 89) (v := (.bool false)) rfl rfl (by kernel_rfl) (by kernel_rfl) (by kernel_rfl) (fun _ _ _ h => h) (.inl ⟨by rfl, by (intro wq hSw; (try dsimp only at hSw); go_simp; (try (first | rfl | omega)))⟩) hHeld ?_
                simp only [Act.put, List.setIfInBounds_toArray, List.set_cons_zero, List.set_cons_succ]
                refine wpAnyH_tk (i := 2) (d := 90) (v := (.slice (some ⟨g, o, none⟩) ks.length pc)) rfl rfl (by kernel_rfl) (by kernel_rfl) (by kernel_rfl) (fun _ _ _ h => h) (.inl ⟨by rfl, by (intro wq hSw; (try dsimp only at hSw); go_simp; (try (first | rfl | omega)))⟩) hHeld ?_
                simp only [Act.put, List.setIfInBounds_toArray, List.set_cons_zero, List.set_cons_succ]
                refine wpAnyH_tk (i := 3) (d := 91) (v := (.int .i64 k)) rfl rfl (by kernel_rfl) (by kernel_rfl) (by kernel_rfl) (fun _ _ _ h => h) (.inl ⟨by rfl, by (intro wq hSw; (try dsimp only at hSw); go_simp; (try (first | rfl | omega)))⟩) hHeld ?_
                simp only [Act.put, List.setIfInBounds_toArray, List.set_cons_zero, List.set_cons_succ]
                refine wpAnyH_tk (i := 4) (d := 92) (v := (.pointer (some ⟨g, o + k, none⟩))) rfl rfl (by kernel_rfl) (by kernel_rfl) (by kernel_rfl) (fun _ _ _ h => h) (.inl ⟨by rfl, by (intro wq hSw; (try dsimp only at hSw); go_simp; (try (first | rfl | omega)))⟩) hHeld ?_
                simp only [Act.put, List.setIfInBounds_toArray, List.set_cons_zero, List.set_cons_succ]
                refine wpAnyH_tk (i := 5) (d := 93) (v := (.slice r n c)) rfl rfl (by kernel_rfl) (by kernel_rfl) (by kernel_rfl) (fun _ _ _ h => h) (.inl ⟨by rfl, by (intro wq hSw; (try dsimp only at hSw); go_simp; (try (first | rfl | omega)))⟩) hHeld ?_
                simp only [Act.put, List.setIfInBounds_toArray, List.set_cons_zero, List.set_cons_succ]
                refine wpAnyH_tk (i := 6) (d := 94) (v := (.slice (some ⟨pb, 0, none⟩) n n)) rfl rfl (by kernel_rfl) (by kernel_rfl) (by kernel_rfl) (fun _ _ _ h => h) (.inl ⟨by rfl, by (intro wq hSw; (try dsimp only at hSw); go_simp; (try (first | rfl | omega)))⟩) hHeld ?_
                simp only [Act.put, List.setIfInBounds_toArray, List.set_cons_zero, List.set_cons_succ]
                refine wpAnyH_ready (rs := [7]) (by kernel_rfl) (by simp) ?_
                refine ready_tk (i := 7) rfl (by rfl) (fun K hK => ?_) AllReadyH.nil
                go_simp
                refine HC1.out.mono ?_
                rintro e w4 ⟨rfl, t4, hw4⟩
                have HB4 : Hid (Below W3.heap.size W3 w4) := by rw [hw4]; exact below_drewN (Below.drew HBQ.out) t4
                clear hw4 HC1
                refine hK.out _ _ (HCX.out _ HB4.out).1 (fun hHeld => ?_)
                clear hK K
                cases hyx : y == x with
                | true =>
                  have HS2 : Hid (s2 = true) := by show _ = _; rw [HSX.out, hyx]; rfl
                  refine wpAnyH_tk (i := 8) (d := 96) (v := (.bool true)) rfl rfl (by kernel_rfl) (by kernel_rfl) (by kernel_rfl) (fun _ _ _ h => h) (.inl ⟨by rfl, by (intro wq hSw; (try dsimp only at hSw); go_simp; (try (first | rfl | omega)))⟩) hHeld ?_
                  simp only [Act.put, List.setIfInBounds_toArray, List.set_cons_zero, List.set_cons_succ]
                  refine wpAnyH_tk (i := 9) (d := 97) (v := (.bool true)) rfl rfl (by kernel_rfl) (by kernel_rfl) (by kernel_rfl) (fun _ _ _ h => h) (.inl ⟨by rfl, by (intro wq hSw; (try dsimp only at hSw); go_simp; (try (first | rfl | omega)))⟩) hHeld ?_
                  simp only [Act.put, List.setIfInBounds_toArray, List.set_cons_zero, List.set_cons_succ]
                  refine wpAnyH_tk (i := 10) (d := 98) (v := undef) rfl rfl (by kernel_rfl) (by kernel_rfl) (by kernel_rfl) (fun _ _ _ h => h) (.inr ⟨by rfl, rfl⟩) hHeld ?_
                  simp only [Act.put, List.setIfInBounds_toArray, List.set_cons_zero, List.set_cons_succ]
                  refine wpAnyH_tk (i := 11) (d := 99) (v := undef) rfl rfl (by kernel_rfl) (by kernel_rfl) (by kernel_rfl) (fun _ _ _ h => h) (.inr ⟨by rfl, rfl⟩) hHeld ?_
                  simp only [Act.put, List.setIfInBounds_toArray, List.set_cons_zero, List.set_cons_succ]
                  refine wpAnyH_tk (i := 12) (d := 100) (v := undef) rfl rfl (by kernel_rfl) (by kernel_rfl) (by kernel_rfl) (fun _ _ _ h => h) (.inr ⟨by rfl, rfl⟩) hHeld ?_
                  simp only [Act.put, List.setIfInBounds_toArray, List.set_cons_zero, List.set_cons_succ]
                  refine wpAnyH_tk (i := 13) (d := 101) (v := undef) rfl rfl (by kernel_rfl) (by kernel_rfl) (by kernel_rfl) (fun _ _ _ h => h) (.inr ⟨by rfl, rfl⟩) hHeld ?_
                  simp only [Act.put, List.setIfInBounds_toArray, List.set_cons_zero, List.set_cons_succ]
                  refine wpAnyH_tk (i := 14) (d := 102) (v := undef) rfl rfl (by kernel_rfl) (by kernel_rfl) (by kernel_rfl) (fun _ _ _ h => h) (.inr ⟨by rfl, rfl⟩) hHeld ?_
                  simp only [Act.put, List.setIfInBounds_toArray, List.set_cons_zero, List.set_cons_succ]
                  refine wpAnyH_tk (i := 15) (d := 103) (v := undef) rfl rfl (by kernel_rfl) (by kernel_rfl) (by kernel_rfl) (fun _ _ _ h => h) (.inr ⟨by rfl, rfl⟩) hHeld ?_
                  simp only [Act.put, List.setIfInBounds_toArray, List.set_cons_zero, List.set_cons_succ]
                  refine wpAnyH_tk (i := 16) (d := 104) (v := undef) rfl rfl (by kernel_rfl) (by kernel_rfl) (by kernel_rfl) (fun _ _ _ h => h) (.inr ⟨by rfl, rfl⟩) hHeld ?_
                  simp only [Act.put, List.setIfInBounds_toArray, List.set_cons_zero, List.set_cons_succ]
                  refine wpAnyH_tk (i := 17) (d := 105) (v := (.bool true)) rfl rfl (by kernel_rfl) (by kernel_rfl) (by kernel_rfl) (fun _ _ _ h => h) (.inl ⟨by rfl, by (intro wq hSw; (try dsimp only at hSw); go_simp; (try (first | rfl | omega)))⟩) hHeld ?_
                  simp only [Act.put, List.setIfInBounds_toArray, List.set_cons_zero, List.set_cons_succ]
                  refine wpAnyH_tk (i := 18) (d := 16) (v := (.bool true)) rfl rfl (by kernel_rfl) (by kernel_rfl) (by kernel_rfl) (fun _ _ _ h => h) (.inl ⟨by rfl, by (intro wq hSw; (try dsimp only at hSw); go_simp; (try (first | rfl | omega)))⟩) hHeld ?_
                  simp only [Act.put, List.setIfInBounds_toArray, List.set_cons_zero, List.set_cons_succ]
                  refine wpAnyH_done (by kernel_rfl) ?_ _
                  clear hHeld hyx
                  go_wp2
                  exact ⟨⟨k + 1, by omega, by go_num, by rw [← HSE.out, HS2.out], HB4.out⟩, by simp [intOf]; omega⟩
                | false =>
                  have HS2 : Hid (s2 = (y == x.map fun z => -z)) := by show _ = _; rw [HSX.out, hyx]; rfl
                  clear hyx HSX
                  refine wpAnyH_tk (i := 8) (d := 96) (v := (.bool false)) rfl rfl (by kernel_rfl) (by kernel_rfl) (by kernel_rfl) (fun _ _ _ h => h) (.inl ⟨by rfl, by (intro wq hSw; (try dsimp only at hSw); go_simp; (try (first | rfl | omega)))⟩) hHeld ?_
                  simp only [Act.put, List.setIfInBounds_toArray, List.set_cons_zero, List.set_cons_succ]
                  refine wpAnyH_tk (i := 9) (d := 97) (v := (.bool false)) rfl rfl (by kernel_rfl) (by kernel_rfl) (by kernel_rfl) (fun _ _ _ h => h) (.inl ⟨by rfl, by (intro wq hSw; (try dsimp only at hSw); go_simp; (try (first | rfl | omega)))⟩) hHeld ?_
                  simp only [Act.put, List.setIfInBounds_toArray, List.set_cons_zero, List.set_cons_succ]
                  refine wpAnyH_tk (i := 10) (d := 98) (v := (.slice (some ⟨g, o, none⟩) ks.length pc)) rfl rfl (by kernel_rfl) (by kernel_rfl) (by kernel_rfl) (fun _ _ _ h => h) (.inl ⟨by rfl, by (intro wq hSw; (try dsimp only at hSw); go_simp; (try (first | rfl | omega)))⟩) hHeld ?_
                  simp only [Act.put, List.setIfInBounds_toArray, List.set_cons_zero, List.set_cons_succ]
                  refine wpAnyH_tk (i := 11) (d := 99) (v := (.int .i64 k)) rfl rfl (by kernel_rfl) (by kernel_rfl) (by kernel_rfl) (fun _ _ _ h => h) (.inl ⟨by rfl, by (intro wq hSw; (try dsimp only at hSw); go_simp; (try (first | rfl | omega)))⟩) hHeld ?_
                  simp only [Act.put, List.setIfInBounds_toArray, List.set_cons_zero, List.set_cons_succ]
                  refine wpAnyH_tk (i := 12) (d := 100) (v := (.pointer (some ⟨g, o + k, none⟩))) rfl rfl (by kernel_rfl) (by kernel_rfl) (by kernel_rfl) (fun _ _ _ h => h) (.inl ⟨by rfl, by (intro wq hSw; (try dsimp only at hSw); go_simp; (try (first | rfl | omega)))⟩) hHeld ?_
                  simp only [Act.put, List.setIfInBounds_toArray, List.set_cons_zero, List.set_cons_succ]
                  refine wpAnyH_tk (i := 13) (d := 101) (v := (.slice r n c)) rfl rfl (by kernel_rfl) (by kernel_rfl) (by kernel_rfl) (fun _ _ _ h => h) (.inl ⟨by rfl, by (intro wq hSw; (try dsimp only at hSw); go_simp; (try (first | rfl | omega)))⟩) hHeld ?_
                  simp only [Act.put, List.setIfInBounds_toArray, List.set_cons_zero, List.set_cons_succ]
                  refine wpAnyH_tk (i := 14) (d := 102) (v := (.slice (some ⟨pb, 0, none⟩) n n)) rfl rfl (by kernel_rfl) (by kernel_rfl) (by kernel_rfl) (fun _ _ _ h => h) (.inl ⟨by rfl, by (intro wq hSw; (try dsimp only at hSw); go_simp; (try (first | rfl | omega)))⟩) hHeld ?_
                  simp only [Act.put, List.setIfInBounds_toArray, List.set_cons_zero, List.set_cons_succ]
                  refine wpAnyH_ready (rs := [15]) (by kernel_rfl) (by simp) ?_
                  refine ready_tk (i := 15) rfl (by rfl) (fun K hK => ?_) AllReadyH.nil
                  go_simp
                  refine (HC2.out w4 HB4.out).mono ?_
                  rintro e w5 ⟨uo, uc, rfl, hsu, hb5⟩
                  have HB5 : Hid (Below W3.heap.size W3 w5) := HB4.out.trans (hb5.mono HB4.out.size)
                  have HC3 : Hid (Calls Try.prog 6 #[.slice r n c, .slice uo n uc] w5 fun e w' => e = .returned (.bool (y == x.map fun z => -z)) ∧ ∃ t, w' = w5.drewN t) := same_any 0 y _ _ _ _ (HCX.out _ HB5.out).2 hsu
                  clear hsu hb5 HC2
                  refine hK.out _ _ (HCX.out _ HB5.out).1 (fun hHeld => ?_)
                  clear hK K
                  generalize (y == x.map fun z => -z) = yt at *
                  refine wpAnyH_ready (rs := [16]) (by kernel_rfl) (by simp) ?_
                  refine ready_tk (i := 16) rfl (by rfl) (fun K hK => ?_) AllReadyH.nil
                  go_simp
                  refine HC3.out.mono ?_
                  rintro e w6 ⟨rfl, t6, hw6⟩
                  have HB6 : Hid (Below W3.heap.size W3 w6) := by rw [hw6]; exact below_drewN HB5.out t6
                  clear hw6 HC3
                  refine hK.out _ _ (HCX.out _ HB6.out).1 (fun hHeld => ?_)
                  clear hK K
                  refine wpAnyH_tk (i := 17) (d := 105) (v := (.bool yt)) rfl rfl (by kernel_rfl) (by kernel_rfl) (by kernel_rfl) (fun _ _ _ h => h) (.inl ⟨by rfl, by (intro wq hSw; (try dsimp only at hSw); go_simp; (try (first | rfl | omega)))⟩) hHeld ?_
                  simp only [Act.put, List.setIfInBounds_toArray, List.set_cons_zero, List.set_cons_succ]
                  refine wpAnyH_tk (i := 18) (d := 16) (v := (.bool yt)) rfl rfl (by kernel_rfl) (by kernel_rfl) (by kernel_rfl) (fun _ _ _ h => h) (.inl ⟨by rfl, by (intro wq hSw; (try dsimp only at hSw); go_simp; (try (first | rfl | omega)))⟩) hHeld ?_
                  simp only [Act.put, List.setIfInBounds_toArray, List.set_cons_zero, List.set_cons_succ]
                  refine wpAnyH_done (by kernel_rfl) ?_ _
                  clear hHeld
                  go_wp2
                  exact ⟨⟨k + 1, by omega, by go_num, by rw [← HSE.out, HS2.out], HB6.out⟩, by simp [intOf]; omega⟩
            · have hke : k = ks.length := by omega
              subst hke
              obtain ⟨wz, rfl⟩ : ∃ wz, wz = wr := ⟨_, rfl⟩
              have HBQ : Hid (Below W3.heap.size W3 wz) := hbel
              have HGZ : Hid (Gs n w1 wz u10 (.slice po ks.length pc) ks) := HG3.out.next hbel
              have hszz : w1.heap.size ≤ wz.heap.size := HGZ.out.bel.size
              clear hbel
              obtain ⟨sm, hsm⟩ : ∃ sm, sm = smB (gxP n ks) x ks.length := ⟨_, rfl⟩
              have HSMX : Hid (sm = smB (gxP n ks) x ks.length) := hsm
              rw [← hsm]
              clear hsm
              cases sm with
              | true =>
                go_wp2
                exact ⟨⟨i + 1, ks, by omega, by go_num, by omega, HKS.out, HDP.out, HGZ.out⟩, by simp [intOf]; omega⟩
              | false =>
                have HDP2 : Hid (Dpl n (ks ++ [(a, b)])) := dpl_push HDP.out (by rw [← HXE.out]; exact HSMX.out.symm)
                have HKS2 : Hid (∀ e ∈ ks ++ [(a, b)], e.1 < n ∧ e.2 < n ∧ e.1 ≠ e.2) := fun e he => by
                  rcases List.mem_append.1 he with he | he
                  · exact HKS.out e he
                  · have : e = (a, b) := by simpa using he
                    subst this
                    exact ⟨ha, hb, HABN.out⟩
                obtain ⟨vz, q1, q2, q3⟩ := HGZ.out.opens
                have HQ1 : Hid (vz.length = ks.length) := q1
                have HQ2 : Hid (wz.ownsRow w1.heap.size 22 1 (.slice po ks.length pc) ks.length vz) := q2
                have HQ3 : Hid (∀ i, i < ks.length → Sl 0 3 wz (vz.getD i (.slice none 0 0)) (ints (gxR n (ks.getD i (0, 0)).1 (ks.getD i (0, 0)).2))) := q3
                have HUX : Hid (Sl 0 3 wz (.slice (some ⟨pb, 0, none⟩) n n) (ints (gxR n a b))) := by rw [← HXE.out]; exact HX.out.below HBQ.out (Nat.le_refl _)
                have hkl : ks.length ≤ 6 := by omega
                clear q1 q2 q3 HSMX
                go_wp2_with (first | (at_builtin; refine wpList_append_own _ rfl _ _ 26 rfl w1.heap.size 22 i0 (.slice none 0 0) 1 24 Try.underlying26 hi0 hz0 hz1 hz2 rfl (by decide) _ _ _ rfl (HQ2.out.alloc _) ⟨wz.heap.size, 0, none⟩ 1 1 [.slice (some ⟨pb, 0, none⟩) n n] rfl rfl (one_new _ _ _) (one_slice _ _ _) ?d3 ?d4 ?d5 ?_))
                case d3 => unfold maxLen; omega
                case d4 => omega
                case d5 => first | omega | (simp; omega)
                intro v5 w5 ho5 hg5 _
                have HP1 : Hid (w5.ownsRow w1.heap.size 27 2 u10 ks.length (ecP ks) ∧ Fr w1.heap.size 22 3 w5 v5 (gxP n (ks ++ [(a, b)])) ∧ Below w1.heap.size w1 w5) := HGZ.out.push1 HQ1.out HQ2.out HQ3.out HUX.out ho5 hg5
                obtain ⟨c1, c2⟩ := HCE.out w5 HP1.out.2.2
                have hsz5 : w1.heap.size ≤ w5.heap.size := HP1.out.2.2.size
                have HNW : Hid (∀ j u, [Value.int .i64 (a : Int), .int .i64 (b : Int)][j]? = some u → (w5.alloc (.cells #[.int .i64 (a : Int), .int .i64 (b : Int)] 27)).cell? ((⟨w5.heap.size, 0, none⟩ : Addr).add j) = some u) := fun j u hj => by
                  rcases j with _ | _ | j
                  · simp at hj; subst hj; simp [Addr.add]
                  · simp at hj; subst hj; simp [Addr.add]
                  · simp at hj
                have HOC : Hid (∀ u ∈ [Value.int .i64 (a : Int), .int .i64 (b : Int)], u.oneCell' = true) := fun u hu => by
                  simp at hu
                  rcases hu with rfl | rfl <;> rfl
                clear ho5 hg5
                go_wp2_with (first | (at_builtin; refine wpList_append_own _ rfl _ _ 24 rfl w1.heap.size 27 i2 (.agg #[.int .i64 0, .int .i64 0]) 2 16 Try.underlying24 hi2 hz20 hz21 hz22 rfl (by decide) _ _ _ rfl (HP1.out.1.alloc _) ⟨w5.heap.size, 0, none⟩ 1 1 [.int .i64 (a : Int), .int .i64 (b : Int)] rfl rfl HNW.out HOC.out ?c3 ?c4 ?c5 ?_))
                case c3 => unfold maxLen; omega
                case c4 => omega
                case c5 => first | omega | (simp; omega)
                intro v6 w6 ho6 hg6 _
                have HG6 : Hid (Gs n w1 w6 v6 v5 (ks ++ [(a, b)])) := Gs.push2 HP1.out ho6 hg6
                clear ho6 hg6
                go_wp2
                exact ⟨⟨i + 1, ks ++ [(a, b)], by omega, by go_num, by simp; omega, HKS2.out, HDP2.out, HG6.out⟩, by simp [intOf]; omega⟩
      · have hk6 : ks.length ≤ 6 := by omega
        obtain ⟨d, hd⟩ : ∃ d : Nat, d = n - 1 := ⟨_, rfl⟩
        have HPG : Hid (PlG d (gxP n ks)) := by rw [hd]; exact plG_gx hn2 hn4 HKS.out HDP.out
        have hd1 : 1 ≤ d := by omega
        have hd3 : d ≤ 3 := by omega
        have hdn : d + 1 = n := by omega
        have dI : IntKind.i64.wrap ((n : Int) - 1) = (d : Int) := by
          rw [show ((n : Int) - 1) = (d : Int) by omega]; exact wrap_small (by omega)
        have HM : Hid (∀ X, Below wr.heap.size wr X → Mat 0 22 3 X (.slice po ks.length pc) (gxP n ks)) := fun X hX => (fr_matE hG.out.p).below hX (Nat.le_refl _)
        obtain ⟨cf, hcf⟩ : ∃ cf, cf = (List.range n).map (whC d (gxP n ks)) := ⟨_, rfl⟩
        have HPO : Hid (Calls Try.prog 8 #[.int .i64 (d : Int), .slice po ks.length pc] wr fun e w' => ∃ co cc, e = .returned (.tuple #[.slice co n cc, .int .i64 0]) ∧ Sl 0 3 w' (.slice co n cc) (ints cf) ∧ Below wr.heap.size wr w') := by
          have h := poly_any d (gxP n ks) _ wr hd1 hd3 HPG.out (by rw [gxP_len]; exact hk6) (HM.out wr (Below.refl _ _))
          rw [hdn, ← hcf] at h
          exact h
        have HTW : Hid ((grTR d (gxP n ks) (gxP n ks).length).length = tw n ks (2 ^ ks.length)) := by
          show _ = _
          rw [gxP_len, hd]
          exact regions_turns hn2 HKS.out
        have HRE : Hid (∀ X, Below wr.heap.size wr X → Calls Try.prog 9 #[.int .i64 (d : Int), .slice po ks.length pc] X fun e w' => ∃ uo uc, e = .returned (.tuple #[.slice uo (tw n ks (2 ^ ks.length)) uc, .int .i64 0]) ∧ Below X.heap.size X w') := fun X hX => by
          refine (regions_any d (gxP n ks) _ X hd1 hd3 HPG.out (by rw [gxP_len]; exact hk6) (HM.out X hX)).mono ?_
          rintro e w' ⟨uo, uc, h1, _, h3⟩
          rw [HTW.out] at h1
          exact ⟨uo, uc, h1, h3⟩
        obtain ⟨C, hC⟩ : ∃ C : Nat, C = colN qn ks n [] := ⟨_, rfl⟩
        have HED2 : Hid (Eds wr.heap.size wr u10 ks) := Eds.own hG.out.e
        have HOL : Hid (∀ s, ∀ e ∈ ortL ks s, e.1 < n ∧ e.2 < n) := ortL_lt HKS.out
        have HNE : Hid (∀ e ∈ ks, e.1 ≠ e.2) := fun e he => (HKS.out e he).2.2
        have HCO : Hid (∀ X, Below wr.heap.size wr X → Calls Try.prog 12 #[.int .i64 (n : Int), u10, .int .i64 (qn : Int), .slice none 0 0] X fun e w' => e = .returned (.int .i64 (C : Int)) ∧ Below X.heap.size X w') := fun X hX => by
          rw [hC]
          exact coloured_any n qn wr.heap.size ks u10 hn4 hq5 hk6 HNE.out n [] _ X (by simp) hX.size (HED2.out.below hX (Nat.le_refl _)) (Sl.nil _ _ _)
        have HC256 : Hid (C ≤ 256) := by
          show _ ≤ _
          have h1 := (colN_le (q := qn) ks n []).1
          have h3 : qn ^ n ≤ 4 ^ n := Nat.pow_le_pow_left hq5 n
          have h4 : 4 ^ n ≤ 4 ^ 4 := Nat.pow_le_pow_right (by decide) hn4
          rw [hC]; omega
        have HLN : Hid (cf.length = n) := by show _ = _; rw [hcf]; simp
        have HWB : Hid (∀ z ∈ cf, z.natAbs ≤ 64) := by
          have h := whC_bdG (d := d) (P := gxP n ks) (by rw [gxP_len]; exact hk6)
          rw [hdn] at h
          rw [hcf]; exact h
        have HVQ : Hid ((qn : Int) * hor (qn : Int) cf = (C : Int)) := by
          show _ = _
          have hg := graphic hn2 hn4 hq1 hq5 hk6 HKS.out
          rw [hor_sum, HLN.out, hC, ← hg, hcf, hd]
          congr 1
          exact sumN_congr fun j hj => by simp [hj]
        have HWQ : Hid (IntKind.i64.wrap ((qn : Int) * hor (qn : Int) cf) = (C : Int)) := by
          show _ = _
          rw [HVQ.out]; exact wrap_small (by have := HC256.out; omega)
        have HVA : Hid (∀ co cc X, Sl 0 3 X (.slice co n cc) (ints cf) → Calls Try.prog 11 #[.slice co n cc, .int .i64 (qn : Int)] X fun e w' => e = .returned (.int .i64 (hor (qn : Int) cf)) ∧ w' = X) := fun co cc X hX => value_any 0 cf (qn : Int) _ X hX (by rw [HLN.out]; exact hn4) (fun z hz => Nat.le_trans (HWB.out z hz) (by decide)) (by omega)
        have HBW : Hid (Below w.heap.size w wr) := HB1.out.trans (hG.out.bel.mono HB1.out.size)
        have HC3 : Hid (((C : Int) == (C : Int)) = true) := by show _ = _; simp
        clear HED HES HKS HDP HV1 HV2 HV3 HB2 HPG HM HWB HVQ hcf hC HNE HTW hd hG
        go_wp2_with fail
        refine HPO.out.mono ?_
        rintro e w2 ⟨co, cc, rfl, hs2, hb2⟩
        have HS2 : Hid (Sl 0 3 w2 (.slice co n cc) (ints cf)) := hs2
        have HB3 : Hid (Below wr.heap.size wr w2) := hb2
        clear hs2 hb2 HPO
        go_wp2_with fail
        refine (HRE.out w2 HB3.out).mono ?_
        rintro e w3 ⟨uo, uc, rfl, hb3⟩
        have HS3 : Hid (Sl 0 3 w3 (.slice co n cc) (ints cf)) := HS2.out.below hb3 (Nat.le_refl _)
        have HB4 : Hid (Below wr.heap.size wr w3) := HB3.out.trans (hb3.mono HB3.out.size)
        clear hb3 HS2 HRE HB3
        obtain ⟨eo, ec, hu10⟩ := inv_cells HED2.out
        subst hu10
        obtain ⟨N2, hN2⟩ : ∃ N2, N2 = 2 ^ ks.length := ⟨_, rfl⟩
        have hN64 : N2 ≤ 64 := by
          have h : 2 ^ ks.length ≤ 2 ^ 6 := Nat.pow_le_pow_right (by decide) hk6
          omega
        have HT0 : Hid (tw n ks 0 = 0) := rfl
        have HTS : Hid (∀ s, tw n ks (s + 1) = tw n ks s + if acB n (ortL ks s) then 1 else 0) := tw_succ n ks
        have HTL : Hid (∀ s, tw n ks s ≤ s) := tw_le n ks
        have HN2 : Hid (N2 = 2 ^ ks.length) := hN2
        have HSH : Hid (wrap64 ((2 : Int) ^ ks.length) = (N2 : Int)) := by rw [hN2]; exact shl_sm hk6
        rw [← hN2]
        clear hN2
        have HED3 : Hid (∀ X, Below w3.heap.size w3 X → Eds w3.heap.size X (.slice eo ks.length ec) ks) := fun X hX => ((HED2.out.below HB4.out (Nat.le_refl _)).more HB4.out.size).below hX (Nat.le_refl _)
        go_wp2
        go_loopw [22, 23, 24, 25, 26] (fun wv sv _ _ _ wq => ∃ s : Nat, s ≤ N2 ∧ sv = .int .i64 s ∧ wv = .int .i64 (tw n ks s : Nat) ∧ Below w3.heap.size w3 wq) (fun _ sv _ _ _ _ => N2 - (intOf sv).toNat)
        case atStart => exact ⟨0, Nat.zero_le _, rfl, by rw [HT0.out]; rfl, Below.refl _ _⟩
        case round =>
          obtain ⟨s, hs, rfl, rfl, hbel⟩ := hrel
          have HBS : Hid (Below w3.heap.size w3 wr) := hbel
          clear hbel
          by_cases hlt2 : s < N2
          · have sI : (s : Int) < (N2 : Int) := Int.ofNat_lt.2 hlt2
            have s64 : s < 64 := Nat.lt_of_lt_of_le hlt2 hN64
            have hsh := HSH.out
            obtain ⟨R, hR⟩ : ∃ R, R = wr.heap.size := ⟨_, rfl⟩
            have HP0 : Hid (PgI w3 R n [] (wr.alloc (.cells #[.int .i64 (n : Int), .slice none 0 0] 37))) := by rw [hR]; exact PgI.start n HBS.out
            have HN64 : Hid (N2 ≤ 64) := hN64
            go_wp2
            rw [← hR]
            clear hR
            go_loopw [25, 26] (fun jv _ wq => ∃ j : Nat, j ≤ ks.length ∧ jv = .int .i64 j ∧ PgI w3 R n ((ortL ks s).take j) wq) (fun jv _ _ => ks.length - (intOf jv).toNat)
            case atStart => exact ⟨0, Nat.zero_le _, rfl, by simpa using HP0.out⟩
            case round =>
              obtain ⟨j, hj, rfl, hpg⟩ := hrel
              have HPG : Hid (PgI w3 R n ((ortL ks s).take j) wr) := hpg
              clear hpg HP0
              have jI0 : (0 : Int) ≤ (j : Int) := by omega
              by_cases hlj : j < ks.length
              · obtain ⟨po3, pc3, he3, hcs3⟩ := HED3.out wr HPG.out.bel
                simp only [Value.slice.injEq, true_and] at he3
                obtain ⟨rfl, rfl⟩ := he3
                obtain ⟨eb, eof, e1, hebl, c1, c2⟩ := hcs3 j hlj
                subst e1
                have HTK : Hid ((ortL ks s).take (j + 1) = (ortL ks s).take j ++ [if s.testBit j then ((ks.getD j (0, 0)).2, (ks.getD j (0, 0)).1) else ks.getD j (0, 0)]) := ortL_take hlj
                have HPE : Hid (ks.getD j (0, 0) = ((ks.getD j (0, 0)).1, (ks.getD j (0, 0)).2)) := rfl
                obtain ⟨so, sc, d0, d1, d2, hown, _⟩ := HPG.out.opens
                have HLE : Hid (((ortL ks s).take j).length = j) := ortL_take_len hj
                rw [HLE.out] at d1 hown
                have HOW : Hid (wr.ownsRow (R + 1) 27 2 (.slice so j sc) j (ecP ((ortL ks s).take j))) := hown
                have HD1 : Hid (wr.cell? ⟨R, 1, none⟩ = some (.slice so j sc)) := d1
                have HRS : Hid (R + 1 ≤ wr.heap.size) := HPG.out.sz
                have jI : (j : Int) < (ks.length : Int) := Int.ofNat_lt.2 hlj
                have hbt0 := bitq_tab s s64 j (by omega)
                generalize (ks.getD j (0, 0)).1 = a at *
                generalize (ks.getD j (0, 0)).2 = b at *
                clear hown hcs3 hebl hsh HED3
                have HAL : Hid (∀ x y : Nat, (wr.alloc (.cells #[.int .i64 (x : Int), .int .i64 (y : Int)] 27)).cell? ⟨R, 1, none⟩ = some (.slice so j sc)) := fun x y => ((alloc_keep wr _).cell (lt_of_cell d1)).trans d1
                have HPU : Hid (∀ (x y : Nat) (v' : Value) (w5 : World), w5.ownsRow (R + 1) 27 2 v' (j + 1) (ecP ((ortL ks s).take j) ++ [.int .i64 (x : Int), .int .i64 (y : Int)]) → ((wr.alloc (.cells #[.int .i64 (x : Int), .int .i64 (y : Int)] 27)).alloc (.cells #[.int .i64 (x : Int), .int .i64 (y : Int)] 27)).grownBy w5 (Value.slice so j sc).ownBlock → w5.cell? ⟨R, 1, none⟩ = some (.slice so j sc) ∧ w5.frozen? ⟨R, 1, none⟩ = false ∧ PgI w3 R n ((ortL ks s).take j ++ [(x, y)]) (w5.setCell ⟨R, 1, none⟩ v')) := fun x y v' w5 ho hg =>
                  HPG.out.push x y (((alloc_keep wr _).alloc (by simp) _)) HD1.out (by rw [HLE.out]; exact ho) hg
                have HOA : Hid (∀ x y : Nat, (wr.alloc (.cells #[.int .i64 (x : Int), .int .i64 (y : Int)] 27)).ownsRow (R + 1) 27 2 (.slice so j sc) j (ecP ((ortL ks s).take j))) := fun x y => own2_belowG HOW.out (alloc_keep wr _) (Nat.le_refl _)
                clear d0 d1 d2 HOW
                cases hbt : s.testBit j with
                | false =>
                  rw [hbt] at hbt0
                  simp only [Bool.false_eq_true, if_false] at hbt0
                  have HT2 : Hid ((ortL ks s).take (j + 1) = (ortL ks s).take j ++ [(a, b)]) := by
                    have h := HTK.out
                    rw [hbt, if_neg (by decide), HPE.out] at h
                    exact h
                  have d1 := HAL.out a b
                  have HNW : Hid (∀ j u, [Value.int .i64 (a : Int), .int .i64 (b : Int)][j]? = some u → ((wr.alloc (.cells #[.int .i64 (a : Int), .int .i64 (b : Int)] 27)).alloc (.cells #[.int .i64 (a : Int), .int .i64 (b : Int)] 27)).cell? ((⟨wr.heap.size + 1, 0, none⟩ : Addr).add j) = some u) := fun j u hj => by
                    rcases j with _ | _ | j
                    · simp at hj; subst hj; simp [Addr.add]
                    · simp at hj; subst hj; simp [Addr.add]
                    · simp at hj
                  have HOC : Hid (∀ u ∈ [Value.int .i64 (a : Int), .int .i64 (b : Int)], u.oneCell' = true) := fun u hu => by
                    simp at hu
                    rcases hu with rfl | rfl <;> rfl
                  clear HTK HPE hbt
                  go_wp2_with (first | (at_builtin; refine wpList_append_own _ rfl _ _ 24 rfl (R + 1) 27 i2 (.agg #[.int .i64 0, .int .i64 0]) 2 16 Try.underlying24 hi2 hz20 hz21 hz22 rfl (by decide) _ _ _ rfl ((HOA.out a b).alloc _) ⟨wr.heap.size + 1, 0, none⟩ 1 1 [.int .i64 (a : Int), .int .i64 (b : Int)] rfl rfl HNW.out HOC.out ?c3 ?c4 ?c5 ?_))
                  case c3 => unfold maxLen; omega
                  case c4 => omega
                  case c5 => first | (have := HRS.out; simp; omega)
                  intro v6 w6 ho6 hg6 _
                  obtain ⟨g1, g2, g3⟩ := HPU.out a b v6 w6 ho6 hg6
                  obtain ⟨vo, vc, hv6⟩ := owns_formG ho6
                  subst hv6
                  have HG3 : Hid (PgI w3 R n ((ortL ks s).take j ++ [(a, b)]) (w6.setCell ⟨R, 1, none⟩ (.slice vo (j + 1) vc))) := g3
                  clear g3 ho6 hg6 HNW HPU HOA
                  go_wp2
                  exact ⟨⟨j + 1, by omega, by go_num, by rw [HT2.out]; exact HG3.out⟩, by simp [intOf]; omega⟩
                | true =>
                  rw [hbt] at hbt0
                  simp only [if_true] at hbt0
                  have HT2 : Hid ((ortL ks s).take (j + 1) = (ortL ks s).take j ++ [(b, a)]) := by
                    have h := HTK.out
                    rw [hbt, if_pos rfl] at h
                    exact h
                  have d1 := HAL.out a b
                  have d2 := HAL.out b a
                  have HNW : Hid (∀ j u, [Value.int .i64 (b : Int), .int .i64 (a : Int)][j]? = some u → ((wr.alloc (.cells #[.int .i64 (b : Int), .int .i64 (a : Int)] 27)).alloc (.cells #[.int .i64 (b : Int), .int .i64 (a : Int)] 27)).cell? ((⟨wr.heap.size + 1, 0, none⟩ : Addr).add j) = some u) := fun j u hj => by
                    rcases j with _ | _ | j
                    · simp at hj; subst hj; simp [Addr.add]
                    · simp at hj; subst hj; simp [Addr.add]
                    · simp at hj
                  have HOC : Hid (∀ u ∈ [Value.int .i64 (b : Int), .int .i64 (a : Int)], u.oneCell' = true) := fun u hu => by
                    simp at hu
                    rcases hu with rfl | rfl <;> rfl
                  clear HTK HPE hbt
                  go_wp2_with (first | (at_builtin; refine wpList_append_own _ rfl _ _ 24 rfl (R + 1) 27 i2 (.agg #[.int .i64 0, .int .i64 0]) 2 16 Try.underlying24 hi2 hz20 hz21 hz22 rfl (by decide) _ _ _ rfl ((HOA.out b a).alloc _) ⟨wr.heap.size + 1, 0, none⟩ 1 1 [.int .i64 (b : Int), .int .i64 (a : Int)] rfl rfl HNW.out HOC.out ?c3 ?c4 ?c5 ?_))
                  case c3 => unfold maxLen; omega
                  case c4 => omega
                  case c5 => first | (have := HRS.out; simp; omega)
                  intro v6 w6 ho6 hg6 _
                  obtain ⟨g1, g2, g3⟩ := HPU.out b a v6 w6 ho6 hg6
                  obtain ⟨vo, vc, hv6⟩ := owns_formG ho6
                  subst hv6
                  have HG3 : Hid (PgI w3 R n ((ortL ks s).take j ++ [(b, a)]) (w6.setCell ⟨R, 1, none⟩ (.slice vo (j + 1) vc))) := g3
                  clear g3 ho6 hg6 HNW HPU HOA
                  go_wp2
                  exact ⟨⟨j + 1, by omega, by go_num, by rw [HT2.out]; exact HG3.out⟩, by simp [intOf]; omega⟩
              · have hje : j = ks.length := by omega
                subst hje
                have jI : ¬ (ks.length : Int) < (ks.length : Int) := by omega
                obtain ⟨so, sc, d0, d1, _, _, hprs⟩ := HPG.out.opens
                rw [ortL_all] at d1 hprs
                rw [ortL_len] at d1 hprs
                have HOM : Hid (Calls Try.prog 10 #[.agg #[.int .i64 (n : Int), .slice so ks.length sc]] wr fun e w' => e = .returned (.int .i64 (omV (acB n (ortL ks s)))) ∧ Below wr.heap.size wr w') := orderMayG_any n (ortL ks s) _ wr hprs (HOL.out s) (by omega) (by omega) (by rw [ortL_len]; omega)
                have HTS1 : Hid (tw n ks (s + 1) = tw n ks s + if acB n (ortL ks s) then 1 else 0) := HTS.out s
                have htl := HTL.out s
                have hn64 := HN64.out
                clear hprs hsh HED3
                generalize acB n (ortL ks s) = ac at *
                go_wp2_with fail
                refine HOM.out.mono ?_
                rintro e w6 ⟨rfl, hb6⟩
                have HB6 : Hid (Below w3.heap.size w3 w6) := HPG.out.bel.trans (hb6.mono HPG.out.bel.size)
                clear hb6 HOM HPG d0 d1
                cases ac with
                | true =>
                  have HTW1 : Hid (tw n ks (s + 1) = tw n ks s + 1) := HTS1.out
                  go_wp2
                  exact ⟨⟨s + 1, by omega, by go_num, by rw [HTW1.out]; go_num, HB6.out⟩, by simp [intOf]; omega⟩
                | false =>
                  have HTW1 : Hid (tw n ks (s + 1) = tw n ks s) := HTS1.out
                  go_wp2
                  exact ⟨⟨s + 1, by omega, by go_num, by rw [HTW1.out], HB6.out⟩, by simp [intOf]; omega⟩
          · have hse : s = N2 := Nat.le_antisymm hs (Nat.not_lt.1 hlt2)
            have sI : ¬ (s : Int) < (N2 : Int) := Int.not_lt.2 (Int.ofNat_le.2 (Nat.not_lt.1 hlt2))
            subst hse
            have hsh := HSH.out
            have HSX : Hid (Sl 0 3 wr (.slice co n cc) (ints cf)) := HS3.out.below HBS.out (Nat.le_refl _)
            have HBX : Hid (Below w.heap.size w wr) := HBW.out.trans ((HB4.out.trans (HBS.out.mono HB4.out.size)).mono HBW.out.size)
            have HVX : Hid (Calls Try.prog 11 #[.slice co n cc, .int .i64 (qn : Int)] wr fun e w' => e = .returned (.int .i64 (hor (qn : Int) cf)) ∧ w' = wr) := HVA.out co cc wr HSX.out
            have HCX : Hid (Calls Try.prog 12 #[.int .i64 (n : Int), .slice eo ks.length ec, .int .i64 (qn : Int), .slice none 0 0] wr fun e w' => e = .returned (.int .i64 (C : Int)) ∧ Below wr.heap.size wr w') := HCO.out wr (HB4.out.trans (HBS.out.mono HB4.out.size))
            clear HVA HCO HS3 HSX HTS HT0
            generalize hor (qn : Int) cf = VQ at *
            go_wp2_with fail
            refine HVX.out.mono ?_
            rintro e w5 ⟨rfl, hw5⟩
            obtain rfl := hw5.symm
            clear HVX hw5
            have hwq := HWQ.out
            have hcc := HC3.out
            go_wp2_with fail
            refine HCX.out.mono ?_
            rintro e w6 ⟨rfl, hb6⟩
            have HBF : Hid (Below w.heap.size w w6) := HBX.out.trans (hb6.mono HBX.out.size)
            clear HCX hb6
            have htt : ((tw n ks s : Int) == (tw n ks s : Int)) = true := by simp
            go_wp2
            go_ret
            exact ⟨rfl, HBF.out⟩

end Go.Proofs.Ytmljnfgfjcjmmaa
