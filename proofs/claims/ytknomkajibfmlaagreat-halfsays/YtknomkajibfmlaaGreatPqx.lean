/- The document's answer: places where rows are met: the walk. -/
import Derived.Test.YtknomkajibfmlaaGreatDsq
import Derived.Test.YtknomkajibfmlaaGreatMgAN
import Derived.Test.YtknomkajibfmlaaGreatRefs7
import Derived.Test.YtknomkajibfmlaaGreatMgAX
import Derived.Deep.DeepCutAuto
namespace Go.Proofs.YtknomkajibfmlaaGreat
open Go.RowKit
attribute [local go_sem ↓] Go.wp_at_zero Go.wp_at_succ

theorem ng_mx {d : Nat} {t : List (List Int)} (h : Box (d + 1) 30 t) (h3 : d ≤ 4) : Mx (d + 1) 60 (t.map (ngR d)) := by
  refine ⟨fun r hr => ?_, fun r hr z hz => ?_, by omega, by omega, by decide, Nat.le_trans (fb_mono (by decide) (show d + 1 ≤ 5 by omega)) (by decide)⟩
  · obtain ⟨y, hy, rfl⟩ := List.mem_map.1 hr
    exact ngR_len (h y hy).1
  · obtain ⟨y, hy, rfl⟩ := List.mem_map.1 hr
    have hy1 := (h y hy).1
    unfold ngR at hz
    rcases List.mem_append.1 hz with hz | hz
    · have := (h y hy).2 z (List.mem_of_mem_take hz)
      omega
    · simp only [List.mem_singleton] at hz
      have := (h y hy).2 (y.getD d 0) (by simp [show d < y.length by omega])
      omega

theorem ptY_len {d : Nat} {t : List (List Int)} (h : normB (d + 1) (t.map (ngR d)) = true) : (ptY d t).length = d + 1 := by
  unfold ptY
  split
  · rw [List.length_map]; exact norm_len h
  · exact norm_len h

theorem ptY_bd {d : Nat} {t : List (List Int)} (hx : Mx (d + 1) 60 (t.map (ngR d))) : ∀ z ∈ ptY d t, z.natAbs ≤ 1000000000000 := by
  intro z hz
  unfold ptY at hz
  split at hz
  · obtain ⟨y, hy, rfl⟩ := List.mem_map.1 hz
    have := norm_bd hx y hy
    omega
  · exact norm_bd hx z hz

theorem pts_len {R : List (List Int)} {d : Nat} {y : List Int} (h : y ∈ ptsD R d) : y.length = d + 1 := by
  unfold ptsD at h
  obtain ⟨c, _, hc⟩ := List.mem_flatMap.1 h
  have hc2 := Option.mem_toList.1 hc
  unfold ptT at hc2
  split at hc2
  · rename_i hq
    simp only [Option.some.injEq] at hc2
    rw [← hc2]
    exact ptY_len hq.1
  · simp at hc2

set_option maxRecDepth 100000 in
set_option maxHeartbeats 800000 in
theorem pointsR_any (B d : Nat) (R : List (List Int)) (v : Value) (w : World) (hv : Mat B 38 3 w v R) (hd1 : 1 ≤ d) (hd : d ≤ 4) (hR1 : 1 ≤ R.length) (hR : R.length ≤ 16) (hx : Box (d + 1) 30 R) :
    Calls Tryz.prog 28 #[v, .int .i64 d] w fun e w' => ∃ x s, e = .returned x ∧ Fr w.heap.size 38 3 w' x s ∧ SAsc s ∧ (∀ r, r ∈ s ↔ r ∈ ptsD R d) ∧ Below w.heap.size w w' := by
  obtain ⟨i0, hi, hz0, hz1, hz2⟩ := info_parts Tryz.info38
  obtain ⟨b, o, cap, r0, hvv, hlc, _, _⟩ := mat_cell hv (k := 0) (by omega)
  subst hvv
  have HV : Hid (Mat B 38 3 w (.slice (some ⟨b, o, none⟩) R.length cap) R) := hv
  have HX : Hid (Box (d + 1) 30 R) := hx
  clear hv hx
  obtain ⟨n, hn⟩ : ∃ n, n = R.length := ⟨_, rfl⟩
  have HN : Hid (n = R.length) := hn
  rw [← hn] at HV hR1 hR hlc ⊢
  clear hn
  go_enter Tryz.func28, Tryz.ntmps28
  go_wp2_with fail
  refine (chosen_any d (by omega) n w (by omega)).mono ?_
  rintro e w1 ⟨cv, rfl, hcf, hb1⟩
  have HCF : Hid (Fr w.heap.size 38 3 w1 cv (chosenL d n)) := hcf
  have HB1 : Hid (Below w.heap.size w w1) := hb1
  have hsz1 : w.heap.size ≤ w1.heap.size := hb1.size
  obtain ⟨co, cc, hcv, hcc1, hcc2⟩ := fr_open hcf
  subst hcv
  have HCL : Hid ((chosenL d n).length ≤ 16777216) := Nat.le_trans (chosen_len d n (by omega)) (Nat.le_trans (Nat.pow_le_pow_right (by decide) (show d ≤ 4 by omega)) (by decide))
  have HCR : Hid (∀ c ∈ chosenL d n, c.length = d ∧ ∀ i, i < d → 0 ≤ c.getD i 0 ∧ c.getD i 0 < (n : Int)) := fun c h => ⟨chosen_row d n c h, (chosen_mem d n c h).1⟩
  clear hcf hb1
  obtain ⟨C, hC⟩ : ∃ C, C = chosenL d n := ⟨_, rfl⟩
  have HCC : Hid (C = chosenL d n) := hC
  rw [← hC] at HCF HCL HCR hcc1 ⊢
  clear hC
  go_wp2
  go_loopw [6, 7] (fun x i wr => ∃ k : Nat, k ≤ C.length ∧ i = .int .i64 k ∧ Fr w1.heap.size 38 3 wr x (ptsTo R d C k) ∧ Below w1.heap.size w1 wr) (fun _ i _ => C.length - (intOf i).toNat)
  case atStart => exact ⟨0, Nat.zero_le _, rfl, Fr.nil _ _ _ _, Below.refl _ _⟩
  case round =>
    obtain ⟨k, hk, rfl, hfr, hbel⟩ := hrel
    rename World => wa
    have HF : Hid (Fr w1.heap.size 38 3 wa u6 (ptsTo R d C k)) := hfr
    have HB : Hid (Below w1.heap.size w1 wa) := hbel
    have HBa : Hid (Below w.heap.size w wa) := HB1.out.trans (hbel.mono hsz1)
    have hsza : w1.heap.size ≤ wa.heap.size := hbel.size
    clear hfr hbel
    by_cases hlt : k < C.length
    · obtain ⟨b2, o2, cp2, r1, hs, hc1, hcc1a, hr1⟩ := mat_cell (HCF.out.rws.mat (Nat.le_refl _)) hlt
      simp only [Value.slice.injEq, true_and] at hs
      obtain ⟨rfl, rfl⟩ := hs
      have hmem : C.getD k [] ∈ C := by simp [hlt]
      obtain ⟨hcl, hcq⟩ := HCR.out _ hmem
      obtain ⟨so, sc, hsv, _, _⟩ := sl_open hr1
      rw [hcl] at hsv
      subst hsv
      have HRS : Hid (ptsTo R d C (k + 1) = ptsTo R d C k ++ (ptT R d (pks R [] (C.getD k []))).toList) := ptsTo_succ R C d k hlt
      generalize C.getD k [] = c at *
      have HCK : Hid (∀ W, Below w1.heap.size w1 W → W.cell? ⟨b2, o2 + k, none⟩ = some (.slice so d sc)) := fun W h => (h.cell (lt_of_cell hcc1a)).trans hcc1a
      have HSC : Hid (∀ W, Below w1.heap.size w1 W → Sl w.heap.size 3 W (.slice so d sc) (ints c)) := fun W h => hr1.below h (Nat.le_refl _)
      have HCQ : Hid (∀ i, i < d → 0 ≤ c.getD i 0 ∧ c.getD i 0 < (n : Int)) := hcq
      have HCD : Hid (c.length = d) := hcl
      clear hr1 hcc1a hcq hcl hmem
      have hkI : (k : Int) < (C.length : Int) := by omega
      have hkI0 : (0 : Int) ≤ (k : Int) := by omega
      go_wp2
      go_loopw [8, 9] (fun x i wq => ∃ j : Nat, j ≤ d ∧ i = .int .i64 j ∧ Rws wa.heap.size 38 3 wq x ((pks R [] (c.take j)).map (ngR d)) ∧ Below wa.heap.size wa wq) (fun _ i _ => d - (intOf i).toNat)
      case atStart => exact ⟨0, Nat.zero_le _, rfl, Rws.nil _ _ _ _, Below.refl _ _⟩
      case round =>
        obtain ⟨j, hj, rfl, hfr, hbel⟩ := hrel
        have HFS : Hid (Rws wa.heap.size 38 3 wr u8 ((pks R [] (c.take j)).map (ngR d))) := hfr
        have HBS : Hid (Below wa.heap.size wa wr) := hbel
        have HB1r : Hid (Below w1.heap.size w1 wr) := HB.out.trans (hbel.mono hsza)
        have HBr : Hid (Below w.heap.size w wr) := HBa.out.trans (hbel.mono HBa.out.size)
        clear hfr hbel
        by_cases hjl : j < d
        · have HSN : Hid ((pks R [] (c.take (j + 1))).map (ngR d) = (pks R [] (c.take j)).map (ngR d) ++ [ngR d (R.getD (c.getD j 0).toNat [])]) := by
            show _ = _
            rw [pks_snocP R c j (by rw [HCD.out]; exact hjl), List.map_append]
            rfl
          have HLN : Hid (((pks R [] (c.take j)).map (ngR d)).length = j) := by show _ = _; have := HCD.out; simp [pks]; omega
          obtain ⟨b3, o3, cp3, hs3, hc3, hcc3⟩ := sl_cell (HSC.out wr HB1r.out) (k := j) (by rw [HCD.out]; exact hjl)
          simp only [Value.slice.injEq] at hs3
          obtain ⟨rfl, hxx, rfl⟩ := hs3
          clear hxx
          have hccK := HCK.out wr HB1r.out
          obtain ⟨hx0, hx1⟩ := HCQ.out j hjl
          obtain ⟨q, hq⟩ : ∃ q : Nat, c.getD j 0 = (q : Int) := ⟨(c.getD j 0).toNat, by omega⟩
          rw [hq] at hcc3 hx0 hx1 HSN
          rw [show ((q : Int)).toNat = q by omega] at HSN
          clear hq
          have hqP : q < R.length := by rw [← HN.out]; omega
          have hqn : q < n := by omega
          obtain ⟨b4, o4, cp4, r2, hs4, _, hcc4, hr2⟩ := mat_cell ((HV.out.any (Nat.le_refl _)).below HBr.out (Nat.le_refl _)) hqP
          simp only [Value.slice.injEq, Option.some.injEq, Addr.mk.injEq, and_true] at hs4
          obtain ⟨⟨rfl, rfl⟩, hxx, rfl⟩ := hs4
          clear hxx
          have hyb := HX.out (R.getD q []) (by simp [hqP])
          obtain ⟨yo, yc, hrv, _, _⟩ := sl_open hr2
          rw [hyb.1] at hrv
          subst hrv
          have HR2 : Hid (Sl wr.heap.size 3 wr (.slice yo (d + 1) yc) (ints (R.getD q []))) := hr2.any (Nat.le_refl _)
          have HYB : Hid ((R.getD q []).length = d + 1 ∧ ((R.getD q []).getD d 0).natAbs ≤ 30) := ⟨hyb.1, by
            have := hyb.2 ((R.getD q []).getD d 0) (getD_mem (by rw [hyb.1]; omega))
            omega⟩
          clear hr2 hyb
          generalize R.getD q [] = y at *
          clear hc3 hqP
          have hszr : wa.heap.size ≤ wr.heap.size := HBS.out.size
          have hjI : (j : Int) < (d : Int) := by omega
          have hjI0 : (0 : Int) ≤ (j : Int) := by omega
          go_wp2_with fail
          refine (copy_any wr.heap.size y _ wr HR2.out (by rw [HYB.out.1]; omega)).mono ?_
          rintro e w2 ⟨u, rfl, ho2, hb2⟩
          rw [HYB.out.1] at ho2
          obtain ⟨g, gc, F, hu, hg, hrow, hF, hgn, hgm⟩ := own_rw ho2 (by omega)
          subst hu
          have ca := hrow.cell (i := d) (by omega)
          have cf := hrow.frozen d
          rw [hF d (by omega)] at ca
          have hzb := HYB.out.2
          have HROW : Hid ((w2.setCell ⟨g, d, none⟩ (.int .i64 (-(y.getD d 0)))).rowIs g 3 gc (fun i => if i = d then .int .i64 (-(y.getD d 0)) else F i)) := hrow.set d _
          have HSL : Hid (∀ Z, Sl Z 3 (w2.setCell ⟨g, d, none⟩ (.int .i64 (-(y.getD d 0)))) (.slice (some ⟨g, 0, none⟩) (d + 1) gc) (ints (ngR d y))) := fun Z => row_slT HROW.out (fun i hi => by
            show (if i = d then Value.int .i64 (-(y.getD d 0)) else F i) = _
            rw [ngR_get HYB.out.1 hi]
            by_cases e : i = d
            · rw [if_pos e, if_pos e]
            · rw [if_neg e, if_neg e, hF i hi]) (ngR_len HYB.out.1) hgn hgm
          have HB3 : Hid (Below wr.heap.size wr (w2.setCell ⟨g, d, none⟩ (.int .i64 (-(y.getD d 0))))) := ((Touch.refl _ _).setCell d _).below hb2 hg
          generalize y.getD d 0 = z at *
          have hnz : wrap64 (-z) = -z := IntWalk.wrap64_in _ ⟨by omega, by omega⟩
          have hdI : (d : Int) < (d : Int) + 1 := by omega
          have hdI0 : (0 : Int) ≤ (d : Int) := by omega
          clear hrow hF ho2 hb2
          go_upto_region 12 with fail
          obtain ⟨W3, hW3⟩ : ∃ W3, W3 = w2.setCell ⟨g, d, none⟩ (.int .i64 (-z)) := ⟨_, rfl⟩
          rw [← hW3] at HSL HB3 ⊢
          clear hW3 HROW ca cf
          obtain ⟨vs, g1, g2, g3⟩ := HFS.out.below HB3.out (Nat.le_refl _)
          have hlen := HLN.out
          rw [hlen] at g1 g2 g3
          have G1 : Hid (vs.length = j) := g1
          have G2 : Hid (W3.ownsRow wa.heap.size 38 1 u8 j vs) := g2
          have G3 : Hid (∀ i, i < j → Sl wa.heap.size 3 W3 (vs.getD i (.slice none 0 0)) (ints (((pks R [] (c.take j)).map (ngR d)).getD i []))) := g3
          have hsz3 : wa.heap.size ≤ W3.heap.size := Nat.le_trans hszr HB3.out.size
          have HB3a : Hid (Below wa.heap.size wa W3) := HBS.out.trans (HB3.out.mono hszr)
          clear g1 g2 g3 hlen
          go_wp2_with (first | (at_builtin; refine wpList_append_own _ rfl _ _ 22 rfl wa.heap.size 38 i0 (.slice none 0 0) 1 24 Tryz.underlying22 hi hz0 hz1 hz2 rfl (by decide) _ _ _ rfl (G2.out.alloc _) ⟨W3.heap.size, 0, none⟩ 1 1 [.slice (some ⟨g, 0, none⟩) (d + 1) gc] rfl rfl (one_new _ _ _) (one_slice _ _ _) ?d3 ?d4 ?d5 ?_))
          case d3 => unfold maxLen; omega
          case d4 => omega
          case d5 => simp; omega
          intro v' w3 ho hg' _
          have R1 : Hid (Rws wa.heap.size 38 3 w3 v' ((pks R [] (c.take (j + 1))).map (ngR d))) := by
            have hp := Rws.push (e2 := 38) (e1 := 3) (m := (pks R [] (c.take j)).map (ngR d)) (u := .slice (some ⟨g, 0, none⟩) (d + 1) gc) (zs := ngR d y) (by decide) (by rw [HLN.out]; exact G1.out) (by rw [HLN.out]; exact G2.out.alloc _)
              (fun i hi => (G3.out i (by rw [HLN.out] at hi; exact hi)).alloc _) ((HSL.out _).alloc _) (by rw [HLN.out]; exact ho) hg'
            rw [← HSN.out] at hp
            exact hp
          have R2 : Hid (Below wa.heap.size wa w3) := (HB3a.out.alloc hsz3 _).grown hg' (by simp; omega) (fun x hx => (G2.out.lt x hx).1)
          clear ho hg'
          go_wp2
          go_roundw
          case rel => exact ⟨j + 1, by omega, by go_num, R1.out, R2.out⟩
          case measure => simp [intOf]; omega
        · obtain rfl : d = j := by omega
          have HT : Hid (Rws wa.heap.size 38 3 wr u8 ((pks R [] c).map (ngR d))) := by
            have := HFS.out
            rw [List.take_of_length_le (by rw [HCD.out]; exact Nat.le_refl _)] at this
            exact this
          clear HFS hj hjl
          have HTL : Hid ((pks R [] c).length = d) := by show _ = _; rw [← HCD.out]; simp [pks]
          have HTM : Hid (∀ x ∈ pks R [] c, x ∈ R) := pks_inE fun q hq => by
            obtain ⟨i, hi, rfl⟩ := List.mem_iff_getElem.1 hq
            have := HCQ.out i (by rw [← HCD.out]; exact hi)
            rw [← HN.out]
            simpa [hi] using this
          generalize pks R [] c = t at *
          have HTX : Hid (Mx (d + 1) 60 (t.map (ngR d))) := ng_mx (fun x hx => HX.out x (HTM.out x hx)) hd
          go_wp2_with fail
          refine (normalR_own (d + 1) 60 wa.heap.size (t.map (ngR d)) u8 wr HTX.out (HT.out.mat (Nat.le_refl _)) (by rw [List.length_map, HTL.out]; omega) (by rw [List.length_map, HTL.out]; omega)).mono ?_
          rintro e W5 ⟨nv, rfl, hns, hbn⟩
          have HNS : Hid (Sl 0 3 W5 nv (ints (normL (d + 1) (t.map (ngR d))))) := hns
          have HB5 : Hid (Below wa.heap.size wa W5) := HBS.out.trans (hbn.mono HBS.out.size)
          clear hns hbn
          have HNONE : Hid (∀ W, Below wa.heap.size wa W → ptT R d t = none → Fr w1.heap.size 38 3 W u6 (ptsTo R d C (k + 1)) ∧ Below w1.heap.size w1 W) := fun W hB h0 => by
            have h := HRS.out
            rw [h0] at h
            have h' : ptsTo R d C (k + 1) = ptsTo R d C k := by simpa using h
            rw [h']
            exact ⟨HF.out.below hB (Nat.le_refl _), HB.out.trans (hB.mono hsza)⟩
          cases hnb : normB (d + 1) (t.map (ngR d))
          case false =>
            have HE : Hid _ := HNONE.out W5 HB5.out (by unfold ptT; rw [hnb]; simp)
            clear hnb
            go_wp2
            go_roundw
            case rel => exact ⟨k + 1, hlt, by go_num, HE.out.1, HE.out.2⟩
            case measure => simp [intOf]; omega
          case true =>
            have HNB : Hid (normB (d + 1) (t.map (ngR d)) = true) := hnb
            obtain ⟨nb, no, nc, hnv, hnc, hxd⟩ := sl_cell HNS.out (k := d) (by rw [norm_len hnb]; omega)
            rw [norm_len hnb] at hnv
            subst hnv
            have HYD : Hid (ptY d t = if (normL (d + 1) (t.map (ngR d))).getD d 0 < 0 then (normL (d + 1) (t.map (ngR d))).map (fun z => -z) else normL (d + 1) (t.map (ngR d))) := rfl
            have HYL : Hid ((ptY d t).length = d + 1 ∧ ∀ z ∈ ptY d t, z.natAbs ≤ 1000000000000) := ⟨ptY_len hnb, ptY_bd HTX.out⟩
            have HNL : Hid ((normL (d + 1) (t.map (ngR d))).length = d + 1 ∧ ∀ z ∈ normL (d + 1) (t.map (ngR d)), z.natAbs ≤ 1000000000000) := ⟨norm_len hnb, norm_bd HTX.out⟩
            have HPT : Hid ((normL (d + 1) (t.map (ngR d))).getD d 0 ≠ 0 → ptT R d t = if ptK R d (ptY d t) = true then some (ptY d t) else none) := fun h0 => by
              unfold ptT
              by_cases hk : ptK R d (ptY d t) = true
              · rw [if_pos ⟨hnb, h0, hk⟩, if_pos hk]
              · rw [if_neg (fun h => hk h.2.2), if_neg hk]
            have HP0 : Hid ((normL (d + 1) (t.map (ngR d))).getD d 0 = 0 → ptT R d t = none) := fun h0 => by
              unfold ptT
              rw [if_neg (fun h => h.2.1 h0)]
            clear hnb
            generalize normL (d + 1) (t.map (ngR d)) = X at *
            generalize ptY d t = Y at *
            generalize X.getD d 0 = xd at *
            have hdI : (d : Int) < (d : Int) + 1 := by omega
            have hdI0 : (0 : Int) ≤ (d : Int) := by omega
            by_cases hx0 : xd = 0
            · subst hx0
              have HE : Hid _ := HNONE.out W5 HB5.out (HP0.out rfl)
              go_wp2
              go_roundw
              case rel => exact ⟨k + 1, hlt, by go_num, HE.out.1, HE.out.2⟩
              case measure => simp [intOf]; omega
            · have HPK := HPT.out hx0
              have HPS : Hid (ptT R d t = if ptK R d Y = true then some Y else none) := HPK
              have hxb : (xd == 0) = false := by simp [hx0]
              clear HPK HPT HP0
              by_cases hxn : xd < 0
              case' pos =>
                have HYE : Hid (Y = X.map fun z => -z) := by rw [if_pos hxn] at HYD; exact HYD
                have hxnb : decide (xd < 0) = true := by simp [hxn]
                go_wp2_with fail
                refine (turned_any 0 X _ W5 HNS.out (by rw [HNL.out.1]; omega) (fun z hz => by have := HNL.out.2 z hz; omega)).mono ?_
                rintro e W6 ⟨yv, rfl, hyo, hyb⟩
                have HYV : Hid (Sl 0 3 W6 yv (ints Y)) := by rw [HYE.out]; exact Sl.own hyo
                have HYO : Hid (Sl 0 3 W6 yv (ints Y)) := HYV.out
                have HB6 : Hid (Below wa.heap.size wa W6) := HB5.out.trans (hyb.mono HB5.out.size)
                clear hyo hyb hxd HYE
                go_wp2
              case' neg =>
                have HYE : Hid (Y = X) := by rw [if_neg hxn] at HYD; exact HYD
                have hxnb : decide (xd < 0) = false := by simp [hxn]
                go_wp2
                have HYV : Hid (Sl 0 3 W5 (.slice (some ⟨nb, no, none⟩) (d + 1) nc) (ints Y)) := by rw [HYE.out]; exact HNS.out
                have HB6 : Hid (Below wa.heap.size wa W5) := HB5.out
                clear hxd HYE HNS HNONE
                generalize Value.slice (some (⟨nb, no, none⟩ : Addr)) (d + 1) nc = yv at *
                obtain ⟨W6, rfl⟩ : ∃ W6, W6 = W5 := ⟨_, rfl⟩
                have HYO : Hid (Sl 0 3 W6 yv (ints Y)) := HYV.out
                have HNONE : Hid (∀ W, Below wa.heap.size wa W → ptT R d t = none → Fr w1.heap.size 38 3 W u6 (ptsTo R d C (k + 1)) ∧ Below w1.heap.size w1 W) := fun W hB h0 => by
                  have h := HRS.out
                  rw [h0] at h
                  have h' : ptsTo R d C (k + 1) = ptsTo R d C k := by simpa using h
                  rw [h']
                  exact ⟨HF.out.below hB (Nat.le_refl _), HB.out.trans (hB.mono hsza)⟩
              all_goals
                have HYZ : Hid (∃ Z, Sl Z 3 W6 yv (ints Y)) := ⟨_, HYV.out⟩
                obtain ⟨yo, yc, hyv, _, _⟩ := sl_open HYV.out
                rw [HYL.out.1] at hyv
                subst hyv
                obtain ⟨yb, yf, yc2, hy2, _, hyd⟩ := sl_cell HYV.out (k := d) (by rw [HYL.out.1]; omega)
                rw [HYL.out.1] at hy2
                simp only [Value.slice.injEq, true_and] at hy2
                obtain ⟨rfl, rfl⟩ := hy2
                have HYDC : Hid (∀ W, Qw W6 W → W.cell? ⟨yb, yf + d, none⟩ = some (.int .i64 (Y.getD d 0))) := fun W hq => by
                  obtain ⟨m, rfl⟩ := hq
                  exact hyd
                have HYDB : Hid ((Y.getD d 0).natAbs ≤ 1000000000000) := HYL.out.2 _ (getD_mem (by rw [HYL.out.1]; omega))
                have HBW6 : Hid (Below w.heap.size w W6) := HBa.out.trans (HB6.out.mono HBa.out.size)
                clear hyd HYV
                go_loopw [13, 14] (fun p i wq => ∃ j : Nat, j ≤ n ∧ i = .int .i64 j ∧ p = .bool ((R.take j).all fun r => decide (dotL (r.take d) Y ≤ r.getD d 0 * Y.getD d 0)) ∧ Qw W6 wq) (fun _ i _ => n - (intOf i).toNat)
                case atStart => exact ⟨0, Nat.zero_le _, rfl, rfl, Qw.refl _⟩
                case round =>
                  obtain ⟨j, hj, rfl, rfl, hqw⟩ := hrel
                  have HQ : Hid (Qw W6 wr) := hqw
                  have HBq : Hid (Below w.heap.size w wr) := HBW6.out.trans hqw.below
                  have HB9 : Hid (Below wa.heap.size wa wr) := HB6.out.trans hqw.below
                  have hyd := HYDC.out wr hqw
                  have HPF : Hid (((R.take j).all fun r => decide (dotL (r.take d) Y ≤ r.getD d 0 * Y.getD d 0)) = false → ptK R d Y = false) := fun h => by
                    rw [List.all_eq_false] at h
                    obtain ⟨x, hx, hx2⟩ := h
                    unfold ptK
                    rw [List.all_eq_false]
                    exact ⟨x, List.mem_of_mem_take hx, hx2⟩
                  clear hqw
                  by_cases hjl : j < n
                  · have hjR : j < R.length := by rw [← HN.out]; exact hjl
                    obtain ⟨b4, o4, cp4, xv, hs4, _, hcc4, hx4⟩ := mat_cell ((HV.out.any (Nat.le_refl _)).below HBq.out (Nat.le_refl _)) hjR
                    simp only [Value.slice.injEq, Option.some.injEq, Addr.mk.injEq, and_true] at hs4
                    obtain ⟨⟨rfl, rfl⟩, hxx, rfl⟩ := hs4
                    clear hxx
                    have hrb := HX.out (R.getD j []) (by simp [hjR])
                    obtain ⟨rb, rf, rc, hxv, hrc, hrd⟩ := sl_cell hx4 (k := d) (by rw [hrb.1]; omega)
                    have hx4' := hx4
                    rw [hxv] at hx4'
                    have htk := Sl.takeE (n := d) hx4' (by rw [hrb.1]; omega)
                    rw [hrb.1] at hxv hrc
                    subst hxv
                    have HTJ : Hid (((R.take (j + 1)).all fun r => decide (dotL (r.take d) Y ≤ r.getD d 0 * Y.getD d 0)) = (((R.take j).all fun r => decide (dotL (r.take d) Y ≤ r.getD d 0 * Y.getD d 0)) && decide (dotL ((R.getD j []).take d) Y ≤ (R.getD j []).getD d 0 * Y.getD d 0))) := by
                      show _ = _
                      have e : R.take (j + 1) = R.take j ++ [R.getD j []] := by rw [List.take_succ_eq_append_getElem hjR]; simp [hjR]
                      rw [e, List.all_append]
                      simp
                    have HDT : Hid (∀ m, Calls Tryz.prog 19 #[.slice (some ⟨rb, rf, none⟩) d rc, .slice (some ⟨yb, yf, none⟩) (d + 1) yc] (wr.drewN m) fun e w' => e = .returned (.int .i64 (dotL ((R.getD j []).take d) Y)) ∧ ∃ k, w' = (wr.drewN m).drewN k) := fun m => by
                      obtain ⟨Z, hZ⟩ := HYZ.out
                      obtain ⟨m2, hm2⟩ := HQ.out
                      subst hm2
                      have hZ2 : Sl Z 3 (W6.drewN m2) (.slice (some ⟨yb, yf, none⟩) (d + 1) yc) (ints Y) := hZ.drewN m2
                      exact dotE_any (max Z w.heap.size) _ Y _ _ _ ((htk.more (by omega)).drewN m) ((hZ2.more (by omega)).drewN m) ⟨by have := HYL.out.1; simp; omega, by simp; omega, fun z hz => by have := hrb.2 z (List.mem_of_mem_take hz); omega, HYL.out.2⟩
                    have hrdb := hrb.2 ((R.getD j []).getD d 0) (getD_mem (by rw [hrb.1]; omega))
                    have hpb : ((R.getD j []).getD d 0 * Y.getD d 0).natAbs ≤ 30 * 1000000000000 := by
                      rw [Int.natAbs_mul]
                      exact Nat.mul_le_mul (by omega) HYDB.out
                    clear hx4 hx4' htk hrb hrdb hjR
                    generalize ((R.take j).all fun r => decide (dotL (r.take d) Y ≤ r.getD d 0 * Y.getD d 0)) = pb at *
                    generalize dotL ((R.getD j []).take d) Y = D at *
                    generalize (R.getD j []).getD d 0 = rd at *
                    generalize Y.getD d 0 = yd at *
                    have hjI : (j : Int) < (n : Int) := by omega
                    have hjI0 : (0 : Int) ≤ (j : Int) := by omega
                    cases pb
                    case false =>
                      have HE : Hid _ := HNONE.out wr HB9.out (by rw [HPS.out, HPF.out rfl]; rfl)
                      clear hpb
                      go_wp2
                      exact ⟨⟨k + 1, hlt, by go_num, HE.out.1, HE.out.2⟩, by simp [intOf]; omega⟩
                    case true =>
                      have hw1 : wrap64 (rd * yd) = rd * yd := IntWalk.wrap64_in _ ⟨by omega, by omega⟩
                      have hw2 : IntKind.i64.wrap (rd * yd) = rd * yd := by rw [IntWalk.i64_left]; exact hw1
                      have hdc : (d : Int) ≤ (rc : Int) := by omega
                      have hdc2 : d ≤ rc := by omega
                      clear hpb
                      go_wp2
                      go_quiet ((go_at_call 19; exact Calls.quiet_of (w := wr) (HDT.out _)))
                      go_wp2
                      exact ⟨⟨j + 1, hjl, by go_num, by rw [HTJ.out]; rfl, HQ.out.drewN nq⟩, by simp [intOf]; omega⟩
                  · obtain rfl : n = j := by omega
                    have HPE : Hid (((R.take n).all fun r => decide (dotL (r.take d) Y ≤ r.getD d 0 * Y.getD d 0)) = ptK R d Y) := by
                      show _ = _
                      rw [List.take_of_length_le (show R.length ≤ n by rw [← HN.out]; exact Nat.le_refl _)]
                      rfl
                    have HFW : Hid (Fr w1.heap.size 38 3 wr u6 (ptsTo R d C k)) := HF.out.below HB9.out (Nat.le_refl _)
                    have HCW : Hid (Below w1.heap.size w1 wr) := HB.out.trans (HB9.out.mono hsza)
                    have HLR : Hid ((ptsTo R d C k).length ≤ 16777216) := Nat.le_trans (ptsTo_len R C d k) (Nat.le_trans hk HCL.out)
                    generalize ((R.take n).all fun r => decide (dotL (r.take d) Y ≤ r.getD d 0 * Y.getD d 0)) = pb at *
                    clear hj hjl
                    cases pb
                    case false =>
                      have HE : Hid _ := HNONE.out wr HB9.out (by rw [HPS.out, HPF.out rfl]; rfl)
                      go_wp2
                      exact ⟨⟨k + 1, hlt, by go_num, HE.out.1, HE.out.2⟩, by simp [intOf]; omega⟩
                    case true =>
                      have HNO : Hid (ptsTo R d C (k + 1) = ptsTo R d C k ++ [Y]) := by
                        have h := HRS.out
                        rw [HPS.out, if_pos HPE.out.symm] at h
                        exact h
                      have HY : Hid (Sl 0 3 wr (.slice (some ⟨yb, yf, none⟩) (d + 1) yc) (ints Y)) := by
                        obtain ⟨m2, hm2⟩ := HQ.out
                        rw [hm2]
                        exact HYO.out.drewN m2
                      have hw1 : w1.heap.size ≤ wr.heap.size := HCW.out.size
                      obtain ⟨vs, g1, g2, g3⟩ := HFW.out
                      obtain ⟨ol, hol⟩ : ∃ ol, ol = (ptsTo R d C k).length := ⟨_, rfl⟩
                      rw [← hol] at g1 g2 g3 HLR
                      have HOL : Hid (ol = (ptsTo R d C k).length) := hol
                      have G1 : Hid (vs.length = ol) := g1
                      have G2 : Hid (wr.ownsRow w1.heap.size 38 1 u6 ol vs) := g2
                      have G3 : Hid (∀ i, i < ol → Sl 0 3 wr (vs.getD i (.slice none 0 0)) (ints ((ptsTo R d C k).getD i []))) := g3
                      have hol2 : ol ≤ 16777216 := HLR.out
                      clear g1 g2 g3 hol
                      go_wp2_with (first | (at_builtin; refine wpList_append_own _ rfl _ _ 22 rfl w1.heap.size 38 i0 (.slice none 0 0) 1 24 Tryz.underlying22 hi hz0 hz1 hz2 rfl (by decide) _ _ _ rfl (G2.out.alloc _) ⟨wr.heap.size, 0, none⟩ 1 1 [.slice (some ⟨yb, yf, none⟩) (d + 1) yc] rfl rfl (one_new _ _ _) (one_slice _ _ _) ?d3 ?d4 ?d5 ?_))
                      case d3 => unfold maxLen; omega
                      case d4 => omega
                      case d5 => first | exact hw1 | omega | (simp; omega)
                      intro v' w3 ho hg _
                      have R1 : Hid (Fr w1.heap.size 38 3 w3 v' (ptsTo R d C (k + 1))) := by
                        have hp := Fr.push (e2 := 38) (e1 := 3) (m := ptsTo R d C k) (u := .slice (some ⟨yb, yf, none⟩) (d + 1) yc) (zs := Y) (by decide) (by rw [← HOL.out]; exact G1.out) (by rw [← HOL.out]; exact G2.out.alloc _)
                          (fun i hi => (G3.out i (by rw [← HOL.out] at hi; exact hi)).alloc _) (HY.out.alloc _) (by rw [← HOL.out]; exact ho) hg
                        rw [← HNO.out] at hp
                        exact hp
                      have R2 : Hid (Below w1.heap.size w1 w3) := (HCW.out.alloc HCW.out.size _).grown hg (by have := HCW.out.size; simp; omega) (fun x hx => (G2.out.lt x hx).1)
                      clear ho hg
                      go_wp2
                      exact ⟨⟨k + 1, hlt, by go_num, R1.out, R2.out⟩, by simp [intOf]; omega⟩
    · have hke : ptsTo R d C k = ptsD R d := by
        unfold ptsTo ptsD
        rw [List.take_of_length_le (by omega), HCC.out, HN.out]
      have HFF : Hid (Fr w.heap.size 38 3 wa u6 (ptsD R d)) := by have := HF.out; rw [hke] at this; exact this.mono hsz1
      have HLR : Hid ((ptsD R d).length ≤ 16777216) := by rw [← hke]; exact Nat.le_trans (ptsTo_len R C d k) (Nat.le_trans hk HCL.out)
      clear hke
      go_wp2_with fail
      refine (sortR_any w.heap.size (ptsD R d) u6 wa (HFF.out.rws.mat (Nat.le_refl _)) (Nat.le_trans HLR.out (by decide)) (fun r hr => by rw [pts_len hr]; omega)).mono ?_
      rintro e w2 ⟨x2, s2, rfl, hf2, hs2, hm2, hb2⟩
      have HF2 : Hid (Fr w.heap.size 38 3 w2 x2 s2) := hf2.mono HBa.out.size
      have HS2 : Hid (SAsc s2) := hs2
      have HM2 : Hid (∀ r, r ∈ s2 ↔ r ∈ ptsD R d) := hm2
      have HB2 : Hid (Below w.heap.size w w2) := HBa.out.trans (hb2.mono HBa.out.size)
      clear hf2 hs2 hm2 hb2
      go_wp2
      go_ret
      exact ⟨_, s2, rfl, HF2.out, HS2.out, HM2.out, HB2.out⟩

end Go.Proofs.YtknomkajibfmlaaGreat
