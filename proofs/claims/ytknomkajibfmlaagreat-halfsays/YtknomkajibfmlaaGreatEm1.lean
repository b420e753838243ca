/- The document's Empty. -/
import Derived.Test.YtknomkajibfmlaaGreatMgAN
import Derived.Deep.DeepCutAuto
namespace Go.Proofs.YtknomkajibfmlaaGreat
open Go.RowKit Lin
attribute [local go_sem ↓] Go.wp_at_zero Go.wp_at_succ

theorem fr_matE {B : Nat} {w : World} {v : Value} {m : List (List Int)} (h : Fr B 38 3 w v m) : Mat 0 38 3 w v m := by
  obtain ⟨vs, h1, h2, h3⟩ := h
  exact ⟨vs, h1, Sl.own h2, h3⟩

/-- Rows of a cut that may be, or of one with a row more. -/
def RwE (d : Nat) (rows : List (List Int)) : Prop := ∀ r ∈ rows, r.length = d + 1 ∧ ∀ z ∈ r, z.natAbs ≤ 20

theorem axs_snoc {d k : Nat} (h : k < d) : (axsL d).take (k + 1) = (axsL d).take k ++ [axR d k] := by
  have hl : k < (axsL d).length := by rw [axs_len]; exact h
  rw [List.take_succ_eq_append_getElem hl]
  simp [axsL]

set_option maxRecDepth 100000 in
set_option maxHeartbeats 8000000 in
theorem empty_any (d : Nat) (R : List (List Int)) (v : Value) (w : World) {B0 : Nat} (hv0 : Mat B0 38 3 w v R) (hd1 : 1 ≤ d) (hd : d ≤ 4) (hR : R.length ≤ 13) (hx : RwE d R) :
    Calls Tryz.prog 6 #[v, .int .i64 d] w fun e w' => e = .returned (.bool (docE d R)) ∧ Below w.heap.size w w' := by
  have hv : Mat w.heap.size 38 3 w v R := hv0.any (Nat.le_refl _)
  clear hv0
  obtain ⟨i0, hi, hz0, hz1, hz2⟩ := info_parts Tryz.info38
  obtain ⟨ro, rcp, hvv, hlc, _⟩ := mat_open hv
  obtain ⟨nr, hnr⟩ : ∃ nr, nr = R.length := ⟨_, rfl⟩
  rw [← hnr] at hvv hR hlc
  subst hvv
  have HNR : Hid (nr = R.length) := hnr
  have HRW : Hid (∀ W', Below w.heap.size w W' → Mat w.heap.size 38 3 W' (.slice ro nr rcp) R) := fun W' hB => hv.below hB (Nat.le_refl _)
  have HRBX : Hid (∀ r ∈ R, r.length = d + 1 ∧ ∀ z ∈ r, z.natAbs ≤ 30) := fun r hr => ⟨(hx r hr).1, fun z hz => by have := (hx r hr).2 z hz; omega⟩
  have HABX : Hid (∀ r ∈ allR d R, r.length = d + 1 ∧ ∀ z ∈ r, z.natAbs ≤ 30) := all_box hx
  have hmk := run_make_row' (P := Tryz.prog) 38 3 (.int .i64 0) 8 Tryz.underlying38 Tryz.info3 rfl .i64 .i64 (d + 1) (by omega) (by omega)
  rw [show (((d + 1 : Nat) : Int)) = (d : Int) + 1 by omega] at hmk
  clear hv hx hnr
  go_enter Tryz.func6, Tryz.ntmps6
  go_wp2
  go_loopw [5, 6] (fun x i wr => ∃ k : Nat, k ≤ d ∧ i = .int .i64 k ∧ Fr w.heap.size 38 3 wr x ((axsL d).take k) ∧ Below w.heap.size w wr) (fun _ i _ => d - (intOf i).toNat)
  case atStart => exact ⟨0, Nat.zero_le _, rfl, Fr.nil _ _ _ _, Below.refl _ _⟩
  case round =>
    obtain ⟨k, hk, rfl, hfr, hbel⟩ := hrel
    have HF : Hid (Fr w.heap.size 38 3 wr u5 ((axsL d).take k)) := hfr
    have HB : Hid (Below w.heap.size w wr) := hbel
    have hsz : w.heap.size ≤ wr.heap.size := hbel.size
    clear hfr hbel
    by_cases hlt : k < d
    · have hkI : (k : Int) < (d : Int) := by omega
      have hkI0 : (0 : Int) ≤ (k : Int) := by omega
      have hkI1 : (k : Int) < (d : Int) + 1 := by omega
      have HSN : Hid ((axsL d).take (k + 1) = (axsL d).take k ++ [axR d k]) := axs_snoc hlt
      have HLN : Hid (((axsL d).take k).length = k) := by show _ = _; rw [List.length_take, axs_len]; omega
      have hmc : (madeCells #[.int .i64 0] (d + 1))[k]? = some (.int .i64 0) := by
        rw [← Array.getElem?_toList, toList_madeCells_one, List.getElem?_replicate, if_pos (by omega)]
      obtain ⟨W3, hW3⟩ : ∃ W3, W3 = wr.alloc (.cells ((madeCells #[.int .i64 0] (d + 1)).setIfInBounds k (.int .i64 1)) 3) := ⟨_, rfl⟩
      have HSL : Hid (Sl 0 3 W3 (.slice (some ⟨wr.heap.size, 0, none⟩) (d + 1) (d + 1)) (ints (axR d k))) := by rw [hW3]; exact ax_row (by omega) (by omega) rfl
      have HB3 : Hid (Below wr.heap.size wr W3) := by rw [hW3]; exact alloc_keep _ _
      go_upto_region 7 with fail
      rw [← hW3]
      clear hW3 hmc
      obtain ⟨vs, g1, g2, g3⟩ := HF.out.below HB3.out (Nat.le_refl _)
      rw [HLN.out] at g1 g2 g3
      have G1 : Hid (vs.length = k) := g1
      have G2 : Hid (W3.ownsRow w.heap.size 38 1 u5 k vs) := g2
      have G3 : Hid (∀ i, i < k → Sl 0 3 W3 (vs.getD i (.slice none 0 0)) (ints (((axsL d).take k).getD i []))) := g3
      have hsz3 : w.heap.size ≤ W3.heap.size := Nat.le_trans hsz HB3.out.size
      have HB3w : Hid (Below w.heap.size w W3) := HB.out.trans (HB3.out.mono hsz)
      clear g1 g2 g3
      go_wp2_with (first | (at_builtin; refine wpList_append_own _ rfl _ _ 22 rfl w.heap.size 38 i0 (.slice none 0 0) 1 24 Tryz.underlying22 hi hz0 hz1 hz2 rfl (by decide) _ _ _ rfl (G2.out.alloc _) ⟨W3.heap.size, 0, none⟩ 1 1 [.slice (some ⟨wr.heap.size, 0, none⟩) (d + 1) (d + 1)] rfl rfl (one_new _ _ _) (one_slice _ _ _) ?d3 ?d4 ?d5 ?_))
      case d3 => unfold maxLen; omega
      case d4 => omega
      case d5 => simp; omega
      intro v' w4 ho hg _
      have R1 : Hid (Fr w.heap.size 38 3 w4 v' ((axsL d).take (k + 1))) := by
        have hp := Fr.push (e2 := 38) (e1 := 3) (m := (axsL d).take k) (u := .slice (some ⟨wr.heap.size, 0, none⟩) (d + 1) (d + 1)) (zs := axR d k) (by decide) (by rw [HLN.out]; exact G1.out) (by rw [HLN.out]; exact G2.out.alloc _)
          (fun i hi => (G3.out i (by rw [HLN.out] at hi; exact hi)).alloc _) (HSL.out.alloc _) (by rw [HLN.out]; exact ho) hg
        rw [← HSN.out] at hp
        exact hp
      have R2 : Hid (Below w.heap.size w w4) := (HB3w.out.alloc hsz3 _).grown hg (by simp; omega) (fun x hx => (G2.out.lt x hx).1)
      clear ho hg
      go_wp2
      go_roundw
      case rel => exact ⟨k + 1, by omega, by go_num, R1.out, R2.out⟩
      case measure => simp [intOf]; omega
    · obtain rfl : d = k := by omega
      have hfa := HF.out
      rw [List.take_of_length_le (by rw [axs_len]; exact Nat.le_refl _)] at hfa
      obtain ⟨fvs, f1, f2, f3⟩ := hfa
      rw [axs_len] at f1 f2 f3
      obtain ⟨fo, fc, hfv⟩ := owns_form f2
      have hfs : Sl 0 38 wr u5 fvs := Sl.own f2
      subst hfv
      obtain ⟨fa, rfl⟩ : ∃ fa, fo = some fa := by
        obtain ⟨b, o, cp, hfe, _⟩ := hfs.at (by omega)
        simp only [Value.slice.injEq] at hfe
        exact ⟨_, hfe.1⟩
      obtain ⟨rvs, r1, r2, r3⟩ := HRW.out wr HB.out
      rw [← HNR.out] at r1 r3
      have F1 : Hid (fvs.length = d) := f1
      have F3 : Hid (∀ W', Below wr.heap.size wr W' → Sl 0 38 W' (.slice (some fa) d fc) fvs ∧ ∀ i, i < d → Sl w.heap.size 3 W' (fvs.getD i (.slice none 0 0)) (ints ((axsL d).getD i []))) := fun W' hB => ⟨hfs.below hB (Nat.le_refl _), fun i hi => ((f3 i hi).below hB (Nat.le_refl _)).more (Nat.zero_le _)⟩
      have R1 : Hid (rvs.length = nr) := r1
      have R3 : Hid (∀ W', Below wr.heap.size wr W' → Sl w.heap.size 38 W' (.slice ro nr rcp) rvs ∧ ∀ i, i < nr → Sl w.heap.size 3 W' (rvs.getD i (.slice none 0 0)) (ints (R.getD i []))) := fun W' hB => ⟨r2.below hB (Nat.le_refl _), fun i hi => (r3 i hi).below hB (Nat.le_refl _)⟩
      have HE0 : Hid ((wr.alloc (.cells #[] 38)).ownsRow w.heap.size 38 1 (.slice (some ⟨wr.heap.size, 0, none⟩) 0 0) 0 []) := emp_own wr w.heap.size hsz
      have HBE : Hid (Below wr.heap.size wr (wr.alloc (.cells #[] 38))) := alloc_keep _ _
      clear f1 f2 f3 hfs r1 r3 HF
      have HONE : Hid (∀ u ∈ rvs, u.oneCell' = true) := rows_one1 (m := R) (by rw [R1.out, HNR.out]) (fun i hi => (R3.out wr (Below.refl _ _)).2 i (by rw [HNR.out]; exact hi))
      have HONEF : Hid (∀ u ∈ fvs, u.oneCell' = true) := rows_one1 (m := axsL d) (by rw [F1.out, axs_len]) (fun i hi => (F3.out wr (Below.refl _ _)).2 i (by rw [axs_len] at hi; exact hi))
      have hszE : w.heap.size ≤ (wr.alloc (.cells #[] 38)).heap.size := by rw [size_alloc]; omega
      cases ro with
      | none =>
        obtain ⟨hn0, hc0, hv0⟩ : nr = 0 ∧ rcp = 0 ∧ rvs = [] := by
          obtain ⟨ao, cp, he, _, _, h3, h4⟩ := r2
          simp only [Value.slice.injEq] at he
          have hl0 : rvs.length = 0 := by
            apply Classical.byContradiction
            intro hne
            obtain ⟨b, o, ha, _⟩ := h3 0 (by omega)
            rw [← he.1] at ha; cases ha
          exact ⟨by omega, by rw [he.2.2]; exact h4 he.1.symm, List.eq_nil_of_length_eq_zero hl0⟩
        subst hn0 hc0 hv0
        clear r2
        obtain ⟨w3, hw3⟩ : ∃ w3, w3 = wr.alloc (.cells #[] 38) := ⟨_, rfl⟩
        have HO1 : Hid (w3.ownsRow w.heap.size 38 1 (.slice (some ⟨wr.heap.size, 0, none⟩) 0 0) 0 ([] : List Value)) := by rw [hw3]; exact HE0.out
        have HB3 : Hid (Below wr.heap.size wr w3) := by rw [hw3]; exact HBE.out
        have HSZ3 : Hid (w.heap.size ≤ w3.heap.size) := Nat.le_trans hsz HB3.out.size
        have HFC := slice_cells (F3.out _ HB3.out).1
        have HFC2 : Hid (∀ j u, fvs[j]? = some u → w3.cell? (fa.add j) = some u) := HFC
        clear HFC
        have HO1' := HO1.out
        have HFC' := HFC2.out
        rw [hw3] at HO1' HFC'
        go_wp2_with (first | (at_builtin; refine wpList_append_own_none rfl _ _ 22 rfl w.heap.size 38 i0 1 Tryz.underlying22 hi _ _ _ rfl HE0.out rfl ?_) | (at_builtin; refine wpList_append_own _ rfl _ _ 22 rfl w.heap.size 38 i0 (.slice none 0 0) 1 24 Tryz.underlying22 hi hz0 hz1 hz2 rfl (by decide) _ _ _ rfl HO1' fa d fc fvs rfl ?d0 HFC' HONEF.out ?d3 ?d4 ?d5 ?_))
        case d0 => rw [F1.out]; omega
        case d3 => unfold maxLen; omega
        case d4 => omega
        case d5 => first | exact HSZ3.out | exact hszE
        intro v2 w1 ho hg _
        rw [← hw3] at hg
        have ho : w1.ownsRow w.heap.size 38 1 v2 (0 + d) ([] ++ fvs) := by rw [Nat.zero_add]; exact ho
        clear HO1' HFC' hw3
        have HF1 : Hid (Rws w.heap.size 38 3 w1 v2 (allR d R)) := by
          refine rws_all (by rw [R1.out, HNR.out]) (by rw [← HNR.out]; exact HO1.out) (fun i hi => (R3.out w3 HB3.out).2 i (by rw [HNR.out]; exact hi)) (by rw [F1.out, axs_len]) (fun i hi => (F3.out w3 HB3.out).2 i (by rw [axs_len] at hi; exact hi)) ?_ hg
          rw [← HNR.out, axs_len]; exact ho
        have HB1 : Hid (Below w.heap.size w w1) := (HB.out.trans (HB3.out.mono hsz)).grown hg HSZ3.out (fun k hk => (HO1.out.lt k hk).1)
        obtain ⟨ao, ac, hav⟩ := owns_form ho
        obtain ⟨n, hn⟩ : ∃ n, n = 0 + d := ⟨_, rfl⟩
        rw [← hn] at hav
        subst hav
        have HN : Hid (n = (allR d R).length) := by show _ = _; rw [all_len, ← HNR.out]; exact hn
        have hn16 : n ≤ 17 := by omega
        have hn1 : 1 ≤ n := by omega
        have HAL : Hid (∀ W', Below w1.heap.size w1 W' → Mat w.heap.size 38 3 W' (.slice ao n ac) (allR d R)) := fun W' hB => (HF1.out.mat (Nat.le_refl _)).below hB (Nat.le_refl _)
        have HDE : Hid (docE d R = (chosenL d n).all fun c => (ptT R d (pks (allR d R) [] c)).isNone) := by show _ = _; unfold docE; rw [← HN.out]
        clear ho hg hn HO1 HB3 F3 R3 HE0 HBE HF1 HFC2 HONE HONEF
        obtain ⟨A, hA⟩ : ∃ A, A = allR d R := ⟨_, rfl⟩
        rw [← hA] at HAL HN HDE HABX
        clear hA
        go_wp2_with fail
        refine (chosen_any d (by omega) n w1 (by omega)).mono ?_
        rintro e w2 ⟨cv, rfl, hcf, hb12⟩
        have HCF : Hid (Fr w1.heap.size 38 3 w2 cv (chosenL d n)) := hcf
        have HB12 : Hid (Below w1.heap.size w1 w2) := hb12
        have HB2 : Hid (Below w.heap.size w w2) := HB1.out.trans (hb12.mono HB1.out.size)
        obtain ⟨co, cc, hcv, hcc1, hcc2⟩ := mat_open (fr_matE hcf)
        subst hcv
        have HCL : Hid ((chosenL d n).length ≤ 16777216) := Nat.le_trans (chosen_len d n (by omega)) (Nat.le_trans (Nat.pow_le_pow_right (by decide) (show d ≤ 4 by omega)) (by decide))
        have HCR : Hid (∀ c ∈ chosenL d n, c.length = d ∧ ∀ i, i < d → 0 ≤ c.getD i 0 ∧ c.getD i 0 < (n : Int)) := fun c h => ⟨chosen_row d n c h, (chosen_mem d n c h).1⟩
        clear hcf hb12
        obtain ⟨C, hC⟩ : ∃ C, C = chosenL d n := ⟨_, rfl⟩
        rw [← hC] at HCF HCL HCR hcc1 HDE ⊢
        clear hC
        go_wp2
        go_loopw [10] (fun i wr => ∃ k : Nat, k ≤ C.length ∧ i = .int .i64 k ∧ (∀ q, q < k → ptT R d (pks A [] (C.getD q [])) = none) ∧ Below w2.heap.size w2 wr) (fun i _ => C.length - (intOf i).toNat)
        case atStart => exact ⟨0, Nat.zero_le _, rfl, fun q hq => by omega, Below.refl _ _⟩
        case round =>
          obtain ⟨k, hk, rfl, hst,  hbel⟩ := hrel
          rename World => wa
          have HB : Hid (Below w2.heap.size w2 wa) := hbel
          have HBa : Hid (Below w.heap.size w wa) := HB2.out.trans (hbel.mono HB2.out.size)
          have HB1a : Hid (Below w1.heap.size w1 wa) := HB12.out.trans (hbel.mono HB12.out.size)
          have hsza : w2.heap.size ≤ wa.heap.size := hbel.size
          clear hbel
          have HST : Hid (∀ q, q < k → ptT R d (pks A [] (C.getD q [])) = none) := hst
          clear hst
          by_cases hlt : k < C.length
          · obtain ⟨b2, o2, cp2, r1, hs, hc1, hcc1a, hr1⟩ := mat_cell (fr_matE HCF.out) hlt
            simp only [Value.slice.injEq, true_and] at hs
            obtain ⟨rfl, rfl⟩ := hs
            have hmem : C.getD k [] ∈ C := by simp [hlt]
            obtain ⟨hcl, hcq⟩ := HCR.out _ hmem
            obtain ⟨so, sc, hsv, _, _⟩ := sl_open hr1
            rw [hcl] at hsv
            subst hsv
            have HNX : Hid (ptT R d (pks A [] (C.getD k [])) = none → ∀ q, q < k + 1 → ptT R d (pks A [] (C.getD q [])) = none) := fun h q hq => by
              by_cases e : q = k
              · rw [e]; exact h
              · exact HST.out q (by omega)
            have HHIT : Hid (ptT R d (pks A [] (C.getD k [])) ≠ none → docE d R = false) := fun h => by
              rw [HDE.out, List.all_eq_false]
              refine ⟨C.getD k [], hmem, ?_⟩
              cases hp : ptT R d (pks A [] (C.getD k [])) with
              | none => exact absurd hp h
              | some y => simp
            generalize C.getD k [] = c at *
            have HCK : Hid (∀ W, Below w2.heap.size w2 W → W.cell? ⟨b2, o2 + k, none⟩ = some (.slice so d sc)) := fun W h => (h.cell (lt_of_cell hcc1a)).trans hcc1a
            have HSC : Hid (∀ W, Below w2.heap.size w2 W → Sl 0 3 W (.slice so d sc) (ints c)) := fun W h => hr1.below h (Nat.le_refl _)
            have HCQ : Hid (∀ i, i < d → 0 ≤ c.getD i 0 ∧ c.getD i 0 < (n : Int)) := hcq
            have HCD : Hid (c.length = d) := hcl
            clear hr1 hcc1a hcq hcl hmem
            have hkI : (k : Int) < (C.length : Int) := by omega
            have hkI0 : (0 : Int) ≤ (k : Int) := by omega
            go_wp2
            go_loopw [11, 12] (fun x i wq => ∃ j : Nat, j ≤ d ∧ i = .int .i64 j ∧ Rws wa.heap.size 38 3 wq x ((pks A [] (c.take j)).map (ngR d)) ∧ Below wa.heap.size wa wq) (fun _ i _ => d - (intOf i).toNat)
            case atStart => exact ⟨0, Nat.zero_le _, rfl, Rws.nil _ _ _ _, Below.refl _ _⟩
            case round =>
              obtain ⟨j, hj, rfl, hfr, hbel⟩ := hrel
              have HFS : Hid (Rws wa.heap.size 38 3 wr u11 ((pks A [] (c.take j)).map (ngR d))) := hfr
              have HBS : Hid (Below wa.heap.size wa wr) := hbel
              have HB2r : Hid (Below w2.heap.size w2 wr) := HB.out.trans (hbel.mono hsza)
              have HB1r : Hid (Below w1.heap.size w1 wr) := HB1a.out.trans (hbel.mono HB1a.out.size)
              clear hfr hbel
              by_cases hjl : j < d
              · have HSN : Hid ((pks A [] (c.take (j + 1))).map (ngR d) = (pks A [] (c.take j)).map (ngR d) ++ [ngR d (A.getD (c.getD j 0).toNat [])]) := by
                  show _ = _
                  rw [pks_snocE A c j (by rw [HCD.out]; exact hjl), List.map_append]
                  rfl
                have HLN : Hid (((pks A [] (c.take j)).map (ngR d)).length = j) := by show _ = _; have := HCD.out; simp [pks]; omega
                obtain ⟨b3, o3, cp3, hs3, hc3, hcc3⟩ := sl_cell (HSC.out wr HB2r.out) (k := j) (by rw [HCD.out]; exact hjl)
                simp only [Value.slice.injEq] at hs3
                obtain ⟨rfl, hxx, rfl⟩ := hs3
                clear hxx
                have hccK := HCK.out wr HB2r.out
                obtain ⟨hx0, hx1⟩ := HCQ.out j hjl
                obtain ⟨q, hq⟩ : ∃ q : Nat, c.getD j 0 = (q : Int) := ⟨(c.getD j 0).toNat, by omega⟩
                rw [hq] at hcc3 hx0 hx1 HSN
                rw [show ((q : Int)).toNat = q by omega] at HSN
                clear hq
                have hqP : q < A.length := by rw [← HN.out]; omega
                have hqn : q < n := by omega
                obtain ⟨b4, o4, cp4, r2, hs4, _, hcc4, hr2⟩ := mat_cell (HAL.out wr HB1r.out) hqP
                rw [← HN.out] at hs4
                simp only [Value.slice.injEq, true_and] at hs4
                obtain ⟨rfl, rfl⟩ := hs4
                have hyb := HABX.out (A.getD q []) (by simp [hqP])
                obtain ⟨yo, yc, hrv, _, _⟩ := sl_open hr2
                rw [hyb.1] at hrv
                subst hrv
                have HR2 : Hid (Sl wr.heap.size 3 wr (.slice yo (d + 1) yc) (ints (A.getD q []))) := hr2.any (Nat.le_refl _)
                have HYB : Hid ((A.getD q []).length = d + 1 ∧ ((A.getD q []).getD d 0).natAbs ≤ 30) := ⟨hyb.1, hyb.2 ((A.getD q []).getD d 0) (getD_mem (by rw [hyb.1]; omega))⟩
                clear hr2 hyb
                generalize A.getD q [] = y at *
                clear hc3 hqP
                have hszr : wa.heap.size ≤ wr.heap.size := HBS.out.size
                have hjI : (j : Int) < (d : Int) := by omega
                have hjI0 : (0 : Int) ≤ (j : Int) := by omega
                have hqnI : (q : Int) < (n : Int) := by omega
                have hqI0 : (0 : Int) ≤ (q : Int) := by omega
                go_wp2_with fail
                refine (copy_any wr.heap.size y _ wr HR2.out (by rw [HYB.out.1]; omega)).mono ?_
                rintro e w3 ⟨u, rfl, ho2, hb2⟩
                rw [HYB.out.1] at ho2
                obtain ⟨g, gc, F, hu, hg, hrow, hF, hgn, hgm⟩ := own_rw ho2 (by omega)
                subst hu
                have ca := hrow.cell (i := d) (by omega)
                have cf := hrow.frozen d
                rw [hF d (by omega)] at ca
                have hzb := HYB.out.2
                have HROW : Hid ((w3.setCell ⟨g, d, none⟩ (.int .i64 (-(y.getD d 0)))).rowIs g 3 gc (fun i => if i = d then .int .i64 (-(y.getD d 0)) else F i)) := hrow.set d _
                have HSL : Hid (∀ Z, Sl Z 3 (w3.setCell ⟨g, d, none⟩ (.int .i64 (-(y.getD d 0)))) (.slice (some ⟨g, 0, none⟩) (d + 1) gc) (ints (ngR d y))) := fun Z => row_slT HROW.out (fun i hi => by
                  show (if i = d then Value.int .i64 (-(y.getD d 0)) else F i) = _
                  rw [ngR_get HYB.out.1 hi]
                  by_cases e : i = d
                  · rw [if_pos e, if_pos e]
                  · rw [if_neg e, if_neg e, hF i hi]) (ngR_len HYB.out.1) hgn hgm
                have HB3 : Hid (Below wr.heap.size wr (w3.setCell ⟨g, d, none⟩ (.int .i64 (-(y.getD d 0))))) := ((Touch.refl _ _).setCell d _).below hb2 hg
                generalize y.getD d 0 = z at *
                have hnz : wrap64 (-z) = -z := IntWalk.wrap64_in _ ⟨by omega, by omega⟩
                have hdI : (d : Int) < (d : Int) + 1 := by omega
                have hdI0 : (0 : Int) ≤ (d : Int) := by omega
                clear hrow hF ho2 hb2
                go_upto_region 19 with fail
                obtain ⟨W3, hW3⟩ : ∃ W3, W3 = w3.setCell ⟨g, d, none⟩ (.int .i64 (-z)) := ⟨_, rfl⟩
                rw [← hW3] at HSL HB3 ⊢
                clear hW3 HROW ca cf
                obtain ⟨vs, g1, g2, g3⟩ := HFS.out.below HB3.out (Nat.le_refl _)
                have hlen := HLN.out
                rw [hlen] at g1 g2 g3
                have G1 : Hid (vs.length = j) := g1
                have G2 : Hid (W3.ownsRow wa.heap.size 38 1 u11 j vs) := g2
                have G3 : Hid (∀ i, i < j → Sl wa.heap.size 3 W3 (vs.getD i (.slice none 0 0)) (ints (((pks A [] (c.take j)).map (ngR d)).getD i []))) := g3
                have hsz3 : wa.heap.size ≤ W3.heap.size := Nat.le_trans hszr HB3.out.size
                have HB3a : Hid (Below wa.heap.size wa W3) := HBS.out.trans (HB3.out.mono hszr)
                clear g1 g2 g3 hlen
                go_wp2_with (first | (at_builtin; refine wpList_append_own _ rfl _ _ 22 rfl wa.heap.size 38 i0 (.slice none 0 0) 1 24 Tryz.underlying22 hi hz0 hz1 hz2 rfl (by decide) _ _ _ rfl (G2.out.alloc _) ⟨W3.heap.size, 0, none⟩ 1 1 [.slice (some ⟨g, 0, none⟩) (d + 1) gc] rfl rfl (one_new _ _ _) (one_slice _ _ _) ?d3 ?d4 ?d5 ?_))
                case d3 => unfold maxLen; omega
                case d4 => omega
                case d5 => simp; omega
                intro v' w4 ho hg' _
                have R1 : Hid (Rws wa.heap.size 38 3 w4 v' ((pks A [] (c.take (j + 1))).map (ngR d))) := by
                  have hp := Rws.push (e2 := 38) (e1 := 3) (m := (pks A [] (c.take j)).map (ngR d)) (u := .slice (some ⟨g, 0, none⟩) (d + 1) gc) (zs := ngR d y) (by decide) (by rw [HLN.out]; exact G1.out) (by rw [HLN.out]; exact G2.out.alloc _)
                    (fun i hi => (G3.out i (by rw [HLN.out] at hi; exact hi)).alloc _) ((HSL.out _).alloc _) (by rw [HLN.out]; exact ho) hg'
                  rw [← HSN.out] at hp
                  exact hp
                have R2 : Hid (Below wa.heap.size wa w4) := (HB3a.out.alloc hsz3 _).grown hg' (by simp; omega) (fun x hx => (G2.out.lt x hx).1)
                clear ho hg'
                go_wp2
                go_roundw
                case rel => exact ⟨j + 1, by omega, by go_num, R1.out, R2.out⟩
                case measure => simp [intOf]; omega
              · obtain rfl : d = j := by omega
                have HT : Hid (Rws wa.heap.size 38 3 wr u11 ((pks A [] c).map (ngR d))) := by
                  have := HFS.out
                  rw [List.take_of_length_le (by rw [HCD.out]; exact Nat.le_refl _)] at this
                  exact this
                clear HFS hj hjl
                have HTL : Hid ((pks A [] c).length = d) := by show _ = _; rw [← HCD.out]; simp [pks]
                have HTM : Hid (∀ x ∈ pks A [] c, x ∈ A) := pks_inE fun q hq => by
                  obtain ⟨i, hi, rfl⟩ := List.mem_iff_getElem.1 hq
                  have := HCQ.out i (by rw [← HCD.out]; exact hi)
                  rw [← HN.out]
                  simpa [hi] using this
                generalize pks A [] c = t at *
                have HTX : Hid (Mx (d + 1) 60 (t.map (ngR d))) := ng_mxE (fun x hx => HABX.out x (HTM.out x hx)) hd
                go_wp2_with fail
                refine (normalR_own (d + 1) 60 wa.heap.size (t.map (ngR d)) u11 wr HTX.out (HT.out.mat (Nat.le_refl _)) (by rw [List.length_map, HTL.out]; omega) (by rw [List.length_map, HTL.out]; omega)).mono ?_
                rintro e W5 ⟨nv, rfl, hns, hbn⟩
                have HNS : Hid (Sl 0 3 W5 nv (ints (normL (d + 1) (t.map (ngR d))))) := hns
                have HB5 : Hid (Below wa.heap.size wa W5) := HBS.out.trans (hbn.mono HBS.out.size)
                clear hns hbn
                cases hnb : normB (d + 1) (t.map (ngR d))
                case false =>
                  have HP0 : Hid (ptT R d t = none) := by show _ = _; unfold ptT; rw [hnb]; simp
                  have HBX5 : Hid (Below w2.heap.size w2 W5) := HB.out.trans (HB5.out.mono hsza)
                  have HQ1 : Hid (∀ q, q < k + 1 → ptT R d (pks A [] (C.getD q [])) = none) := HNX.out HP0.out
                  clear hnb
                  go_wp2
                  go_roundw
                  case rel => exact ⟨k + 1, hlt, by go_num, HQ1.out,  HBX5.out⟩
                  case measure => simp [intOf]; omega
                case true =>
                  have HNB : Hid (normB (d + 1) (t.map (ngR d)) = true) := hnb
                  obtain ⟨nb, no, nc, hnv, hnc, hxd⟩ := sl_cell HNS.out (k := d) (by rw [norm_len hnb]; omega)
                  rw [norm_len hnb] at hnv
                  subst hnv
                  have HYD : Hid (ptY d t = if (normL (d + 1) (t.map (ngR d))).getD d 0 < 0 then (normL (d + 1) (t.map (ngR d))).map (fun z => -z) else normL (d + 1) (t.map (ngR d))) := rfl
                  have HYL : Hid ((ptY d t).length = d + 1 ∧ ∀ z ∈ ptY d t, z.natAbs ≤ 1000000000000) := ⟨ptY_lenE hnb, ptY_bdE HTX.out⟩
                  have HNL : Hid ((normL (d + 1) (t.map (ngR d))).length = d + 1 ∧ ∀ z ∈ normL (d + 1) (t.map (ngR d)), z.natAbs ≤ 1000000000000) := ⟨norm_len hnb, norm_bd HTX.out⟩
                  have HPT : Hid ((normL (d + 1) (t.map (ngR d))).getD d 0 ≠ 0 → ptT R d t = if ptK R d (ptY d t) = true then some (ptY d t) else none) := fun h0 => by
                    unfold ptT
                    by_cases hk : ptK R d (ptY d t) = true
                    · rw [if_pos ⟨hnb, h0, hk⟩, if_pos hk]
                    · rw [if_neg (fun h => hk h.2.2), if_neg hk]
                  have HP00 : Hid ((normL (d + 1) (t.map (ngR d))).getD d 0 = 0 → ptT R d t = none) := fun h0 => by
                    unfold ptT
                    rw [if_neg (fun h => h.2.1 h0)]
                  clear hnb
                  generalize normL (d + 1) (t.map (ngR d)) = X at *
                  generalize ptY d t = Y at *
                  generalize X.getD d 0 = xd at *
                  have hdI : (d : Int) < (d : Int) + 1 := by omega
                  have hdI0 : (0 : Int) ≤ (d : Int) := by omega
                  by_cases hx0 : xd = 0
                  · subst hx0
                    have HP0 : Hid (ptT R d t = none) := HP00.out rfl
                    have HBX5 : Hid (Below w2.heap.size w2 W5) := HB.out.trans (HB5.out.mono hsza)
                    have HQ1 : Hid (∀ q, q < k + 1 → ptT R d (pks A [] (C.getD q [])) = none) := HNX.out HP0.out
                    go_wp2
                    go_roundw
                    case rel => exact ⟨k + 1, hlt, by go_num, HQ1.out,  HBX5.out⟩
                    case measure => simp [intOf]; omega
                  · have HPK := HPT.out hx0
                    have HPS : Hid (ptT R d t = if ptK R d Y = true then some Y else none) := HPK
                    have hxb : (xd == 0) = false := by simp [hx0]
                    clear HPK HPT HP00
                    by_cases hxn : xd < 0
                    case' pos =>
                      have HYE : Hid (Y = X.map fun z => -z) := by rw [if_pos hxn] at HYD; exact HYD
                      have hxnb : decide (xd < 0) = true := by simp [hxn]
                      go_wp2_with fail
                      refine (turned_any 0 X _ W5 HNS.out (by rw [HNL.out.1]; omega) (fun z hz => by have := HNL.out.2 z hz; omega)).mono ?_
                      rintro e W6 ⟨yv, rfl, hyo, hyb⟩
                      have HYO : Hid (Sl 0 3 W6 yv (ints Y)) := by rw [HYE.out]; exact Sl.own hyo
                      have HB6 : Hid (Below wa.heap.size wa W6) := HB5.out.trans (hyb.mono HB5.out.size)
                      clear hyo hyb hxd HYE
                      go_wp2
                    case' neg =>
                      have HYE : Hid (Y = X) := by rw [if_neg hxn] at HYD; exact HYD
                      have hxnb : decide (xd < 0) = false := by simp [hxn]
                      go_wp2
                      have HYV : Hid (Sl 0 3 W5 (.slice (some ⟨nb, no, none⟩) (d + 1) nc) (ints Y)) := by rw [HYE.out]; exact HNS.out
                      have HB6 : Hid (Below wa.heap.size wa W5) := HB5.out
                      clear hxd HYE HNS
                      generalize Value.slice (some (⟨nb, no, none⟩ : Addr)) (d + 1) nc = yv at *
                      obtain ⟨W6, rfl⟩ : ∃ W6, W6 = W5 := ⟨_, rfl⟩
                      have HYO : Hid (Sl 0 3 W6 yv (ints Y)) := HYV.out
                      clear HYV
                    all_goals
                      obtain ⟨yo, yc, hyv, _, _⟩ := sl_open HYO.out
                      rw [HYL.out.1] at hyv
                      subst hyv
                      obtain ⟨yb, yf, yc2, hy2, _, hyd⟩ := sl_cell HYO.out (k := d) (by rw [HYL.out.1]; omega)
                      rw [HYL.out.1] at hy2
                      simp only [Value.slice.injEq, true_and] at hy2
                      obtain ⟨rfl, rfl⟩ := hy2
                      have HYDC : Hid (∀ W, Qe W6 W → W.cell? ⟨yb, yf + d, none⟩ = some (.int .i64 (Y.getD d 0))) := fun W hq => by
                        obtain ⟨m, rfl⟩ := hq
                        exact hyd
                      have HYDB : Hid ((Y.getD d 0).natAbs ≤ 1000000000000) := HYL.out.2 _ (getD_mem (by rw [HYL.out.1]; omega))
                      have HBW6 : Hid (Below w.heap.size w W6) := HBa.out.trans (HB6.out.mono HBa.out.size)
                      have HB16 : Hid (Below w1.heap.size w1 W6) := HB1a.out.trans (HB6.out.mono HB1a.out.size)
                      clear hyd
                      go_loopw [16, 17] (fun p i wq => ∃ j : Nat, j ≤ 0 ∧ i = .int .i64 j ∧ p = .bool ((R.take j).all fun r => decide (dotL (r.take d) Y ≤ r.getD d 0 * Y.getD d 0)) ∧ Qe W6 wq) (fun _ i _ => 0 - (intOf i).toNat)
                      case atStart => exact ⟨0, Nat.zero_le _, rfl, rfl, Qe.refl _⟩
                      case round =>
                        obtain ⟨j, hj, rfl, rfl, hqw⟩ := hrel
                        have HQ : Hid (Qe W6 wr) := hqw
                        have HBq : Hid (Below w.heap.size w wr) := HBW6.out.trans hqw.below
                        have HB1q : Hid (Below w1.heap.size w1 wr) := HB16.out.trans hqw.below
                        have HB9 : Hid (Below wa.heap.size wa wr) := HB6.out.trans hqw.below
                        have hyd := HYDC.out wr hqw
                        have HPF : Hid (((R.take j).all fun r => decide (dotL (r.take d) Y ≤ r.getD d 0 * Y.getD d 0)) = false → ptK R d Y = false) := fun h => by
                          rw [List.all_eq_false] at h
                          obtain ⟨x, hx, hx2⟩ := h
                          unfold ptK
                          rw [List.all_eq_false]
                          exact ⟨x, List.mem_of_mem_take hx, hx2⟩
                        clear hqw
                        by_cases hjl : j < 0 ∧ ((R.take j).all fun r => decide (dotL (r.take d) Y ≤ r.getD d 0 * Y.getD d 0)) = true
                        · exact absurd hjl.1 (by omega)
                        · have HPE : Hid (((R.take j).all fun r => decide (dotL (r.take d) Y ≤ r.getD d 0 * Y.getD d 0)) = ptK R d Y) := by
                            show _ = _
                            cases hpt : ((R.take j).all fun r => decide (dotL (r.take d) Y ≤ r.getD d 0 * Y.getD d 0)) with
                            | false => exact (HPF.out hpt).symm
                            | true =>
                              have hjn : ¬ j < 0 := fun h => hjl ⟨h, hpt⟩
                              rw [← hpt, List.take_of_length_le (show R.length ≤ j by rw [← HNR.out]; omega)]
                              rfl
                          have hjb : (decide ((j : Int) < (0 : Int)) && ((R.take j).all fun r => decide (dotL (r.take d) Y ≤ r.getD d 0 * Y.getD d 0))) = false := by
                            rw [Bool.eq_false_iff]
                            intro h
                            rw [Bool.and_eq_true, decide_eq_true_eq] at h
                            exact hjl ⟨by omega, h.2⟩
                          have HBX9 : Hid (Below w2.heap.size w2 wr) := HB.out.trans (HB9.out.mono hsza)
                          rw [HPE.out] at hjb ⊢
                          clear hjl HPF
                          generalize ptK R d Y = pb at *
                          cases pb
                          case false =>
                            have HP0 : Hid (ptT R d t = none) := by show _ = _; rw [HPS.out]; rfl
                            have HQ1 : Hid (∀ q, q < k + 1 → ptT R d (pks A [] (C.getD q [])) = none) := HNX.out HP0.out
                            go_wp2
                            all_goals exact ⟨⟨k + 1, hlt, by go_num, HQ1.out, HBX9.out⟩, by simp [intOf]; omega⟩
                          case true =>
                            have HP1 : Hid (docE d R = false) := HHIT.out (by rw [HPS.out]; simp)
                            have hjb' : decide ((j : Int) < (0 : Int)) = false := by rw [Bool.and_true] at hjb; exact hjb
                            have hjn : ¬ (j : Int) < (0 : Int) := of_decide_eq_false hjb'
                            have hjn2 : decide (j < 0) = false := decide_eq_false (by omega)
                            clear hjb
                            go_wp2
                            go_ret
                            exact ⟨by rw [HP1.out]; rfl, HBq.out⟩
          · have HP1 : Hid (docE d R = true) := by
              show _ = _
              rw [HDE.out, List.all_eq_true]
              intro c hc
              obtain ⟨q, hq, rfl⟩ := List.getElem_of_mem hc
              have := HST.out q (by omega)
              rw [show C.getD q [] = C[q] by simp [hq]] at this
              rw [this]; rfl
            go_wp2
            go_ret
            exact ⟨by rw [HP1.out]; rfl, HBa.out⟩
      | some ra =>
        clear r2
        have HRC := slice_cells (R3.out _ HBE.out).1
        have HRC2 : Hid (∀ j u, rvs[j]? = some u → (wr.alloc (.cells #[] 38)).cell? (ra.add j) = some u) := HRC
        clear HRC
        go_wp2_with (first | (at_builtin; refine wpList_append_own _ rfl _ _ 22 rfl w.heap.size 38 i0 (.slice none 0 0) 1 24 Tryz.underlying22 hi hz0 hz1 hz2 rfl (by decide) _ _ _ rfl HE0.out ra nr rcp rvs rfl ?d0 HRC2.out HONE.out ?d3 ?d4 ?d5 ?_))
        case d0 => rw [R1.out]; omega
        case d3 => unfold maxLen; omega
        case d4 => omega
        case d5 => exact hszE
        intro v1 w3 ho hg _
        have ho1 : w3.ownsRow w.heap.size 38 1 v1 nr rvs := by simpa using ho
        have HO1 : Hid (w3.ownsRow w.heap.size 38 1 v1 nr rvs) := ho1
        have HB3 : Hid (Below wr.heap.size wr w3) := by
          have h1 : (wr.alloc (.cells #[] 38)).grownBy w3 (some wr.heap.size) := hg
          exact HBE.out.grown h1 (by rw [size_alloc]; omega) (fun k hk => by cases hk; exact Nat.le_refl _)
        clear ho hg ho1
        have HSZ3 : Hid (w.heap.size ≤ w3.heap.size) := Nat.le_trans hsz HB3.out.size
        have HFC := slice_cells (F3.out _ HB3.out).1
        have HFC2 : Hid (∀ j u, fvs[j]? = some u → w3.cell? (fa.add j) = some u) := HFC
        clear HFC
        go_wp2_with (first | (at_builtin; refine wpList_append_own _ rfl _ _ 22 rfl w.heap.size 38 i0 (.slice none 0 0) 1 24 Tryz.underlying22 hi hz0 hz1 hz2 rfl (by decide) _ _ _ rfl HO1.out fa d fc fvs rfl ?d0 HFC2.out HONEF.out ?d3 ?d4 ?d5 ?_))
        case d0 => rw [F1.out]; omega
        case d3 => unfold maxLen; omega
        case d4 => omega
        case d5 => first | exact HSZ3.out | exact hszE
        intro v2 w1 ho hg _
        have HF1 : Hid (Rws w.heap.size 38 3 w1 v2 (allR d R)) := by
          refine rws_all (by rw [R1.out, HNR.out]) (by rw [← HNR.out]; exact HO1.out) (fun i hi => (R3.out w3 HB3.out).2 i (by rw [HNR.out]; exact hi)) (by rw [F1.out, axs_len]) (fun i hi => (F3.out w3 HB3.out).2 i (by rw [axs_len] at hi; exact hi)) ?_ hg
          rw [← HNR.out, axs_len]; exact ho
        have HB1 : Hid (Below w.heap.size w w1) := (HB.out.trans (HB3.out.mono hsz)).grown hg HSZ3.out (fun k hk => (HO1.out.lt k hk).1)
        obtain ⟨ao, ac, hav⟩ := owns_form ho
        obtain ⟨n, hn⟩ : ∃ n, n = nr + d := ⟨_, rfl⟩
        rw [← hn] at hav
        subst hav
        have HN : Hid (n = (allR d R).length) := by show _ = _; rw [all_len, ← HNR.out]; exact hn
        have hn16 : n ≤ 17 := by omega
        have hn1 : 1 ≤ n := by omega
        have HAL : Hid (∀ W', Below w1.heap.size w1 W' → Mat w.heap.size 38 3 W' (.slice ao n ac) (allR d R)) := fun W' hB => (HF1.out.mat (Nat.le_refl _)).below hB (Nat.le_refl _)
        have HDE : Hid (docE d R = (chosenL d n).all fun c => (ptT R d (pks (allR d R) [] c)).isNone) := by show _ = _; unfold docE; rw [← HN.out]
        clear ho hg hn HO1 HB3 F3 R3 HE0 HBE HF1 HFC2 HONE HONEF
        obtain ⟨A, hA⟩ : ∃ A, A = allR d R := ⟨_, rfl⟩
        rw [← hA] at HAL HN HDE HABX
        clear hA
        go_wp2_with fail
        refine (chosen_any d (by omega) n w1 (by omega)).mono ?_
        rintro e w2 ⟨cv, rfl, hcf, hb12⟩
        have HCF : Hid (Fr w1.heap.size 38 3 w2 cv (chosenL d n)) := hcf
        have HB12 : Hid (Below w1.heap.size w1 w2) := hb12
        have HB2 : Hid (Below w.heap.size w w2) := HB1.out.trans (hb12.mono HB1.out.size)
        obtain ⟨co, cc, hcv, hcc1, hcc2⟩ := mat_open (fr_matE hcf)
        subst hcv
        have HCL : Hid ((chosenL d n).length ≤ 16777216) := Nat.le_trans (chosen_len d n (by omega)) (Nat.le_trans (Nat.pow_le_pow_right (by decide) (show d ≤ 4 by omega)) (by decide))
        have HCR : Hid (∀ c ∈ chosenL d n, c.length = d ∧ ∀ i, i < d → 0 ≤ c.getD i 0 ∧ c.getD i 0 < (n : Int)) := fun c h => ⟨chosen_row d n c h, (chosen_mem d n c h).1⟩
        clear hcf hb12
        obtain ⟨C, hC⟩ : ∃ C, C = chosenL d n := ⟨_, rfl⟩
        rw [← hC] at HCF HCL HCR hcc1 HDE ⊢
        clear hC
        go_wp2
        go_loopw [10] (fun i wr => ∃ k : Nat, k ≤ C.length ∧ i = .int .i64 k ∧ (∀ q, q < k → ptT R d (pks A [] (C.getD q [])) = none) ∧ Below w2.heap.size w2 wr) (fun i _ => C.length - (intOf i).toNat)
        case atStart => exact ⟨0, Nat.zero_le _, rfl, fun q hq => by omega, Below.refl _ _⟩
        case round =>
          obtain ⟨k, hk, rfl, hst,  hbel⟩ := hrel
          rename World => wa
          have HB : Hid (Below w2.heap.size w2 wa) := hbel
          have HBa : Hid (Below w.heap.size w wa) := HB2.out.trans (hbel.mono HB2.out.size)
          have HB1a : Hid (Below w1.heap.size w1 wa) := HB12.out.trans (hbel.mono HB12.out.size)
          have hsza : w2.heap.size ≤ wa.heap.size := hbel.size
          clear hbel
          have HST : Hid (∀ q, q < k → ptT R d (pks A [] (C.getD q [])) = none) := hst
          clear hst
          by_cases hlt : k < C.length
          · obtain ⟨b2, o2, cp2, r1, hs, hc1, hcc1a, hr1⟩ := mat_cell (fr_matE HCF.out) hlt
            simp only [Value.slice.injEq, true_and] at hs
            obtain ⟨rfl, rfl⟩ := hs
            have hmem : C.getD k [] ∈ C := by simp [hlt]
            obtain ⟨hcl, hcq⟩ := HCR.out _ hmem
            obtain ⟨so, sc, hsv, _, _⟩ := sl_open hr1
            rw [hcl] at hsv
            subst hsv
            have HNX : Hid (ptT R d (pks A [] (C.getD k [])) = none → ∀ q, q < k + 1 → ptT R d (pks A [] (C.getD q [])) = none) := fun h q hq => by
              by_cases e : q = k
              · rw [e]; exact h
              · exact HST.out q (by omega)
            have HHIT : Hid (ptT R d (pks A [] (C.getD k [])) ≠ none → docE d R = false) := fun h => by
              rw [HDE.out, List.all_eq_false]
              refine ⟨C.getD k [], hmem, ?_⟩
              cases hp : ptT R d (pks A [] (C.getD k [])) with
              | none => exact absurd hp h
              | some y => simp
            generalize C.getD k [] = c at *
            have HCK : Hid (∀ W, Below w2.heap.size w2 W → W.cell? ⟨b2, o2 + k, none⟩ = some (.slice so d sc)) := fun W h => (h.cell (lt_of_cell hcc1a)).trans hcc1a
            have HSC : Hid (∀ W, Below w2.heap.size w2 W → Sl 0 3 W (.slice so d sc) (ints c)) := fun W h => hr1.below h (Nat.le_refl _)
            have HCQ : Hid (∀ i, i < d → 0 ≤ c.getD i 0 ∧ c.getD i 0 < (n : Int)) := hcq
            have HCD : Hid (c.length = d) := hcl
            clear hr1 hcc1a hcq hcl hmem
            have hkI : (k : Int) < (C.length : Int) := by omega
            have hkI0 : (0 : Int) ≤ (k : Int) := by omega
            go_wp2
            go_loopw [11, 12] (fun x i wq => ∃ j : Nat, j ≤ d ∧ i = .int .i64 j ∧ Rws wa.heap.size 38 3 wq x ((pks A [] (c.take j)).map (ngR d)) ∧ Below wa.heap.size wa wq) (fun _ i _ => d - (intOf i).toNat)
            case atStart => exact ⟨0, Nat.zero_le _, rfl, Rws.nil _ _ _ _, Below.refl _ _⟩
            case round =>
              obtain ⟨j, hj, rfl, hfr, hbel⟩ := hrel
              have HFS : Hid (Rws wa.heap.size 38 3 wr u11 ((pks A [] (c.take j)).map (ngR d))) := hfr
              have HBS : Hid (Below wa.heap.size wa wr) := hbel
              have HB2r : Hid (Below w2.heap.size w2 wr) := HB.out.trans (hbel.mono hsza)
              have HB1r : Hid (Below w1.heap.size w1 wr) := HB1a.out.trans (hbel.mono HB1a.out.size)
              clear hfr hbel
              by_cases hjl : j < d
              · have HSN : Hid ((pks A [] (c.take (j + 1))).map (ngR d) = (pks A [] (c.take j)).map (ngR d) ++ [ngR d (A.getD (c.getD j 0).toNat [])]) := by
                  show _ = _
                  rw [pks_snocE A c j (by rw [HCD.out]; exact hjl), List.map_append]
                  rfl
                have HLN : Hid (((pks A [] (c.take j)).map (ngR d)).length = j) := by show _ = _; have := HCD.out; simp [pks]; omega
                obtain ⟨b3, o3, cp3, hs3, hc3, hcc3⟩ := sl_cell (HSC.out wr HB2r.out) (k := j) (by rw [HCD.out]; exact hjl)
                simp only [Value.slice.injEq] at hs3
                obtain ⟨rfl, hxx, rfl⟩ := hs3
                clear hxx
                have hccK := HCK.out wr HB2r.out
                obtain ⟨hx0, hx1⟩ := HCQ.out j hjl
                obtain ⟨q, hq⟩ : ∃ q : Nat, c.getD j 0 = (q : Int) := ⟨(c.getD j 0).toNat, by omega⟩
                rw [hq] at hcc3 hx0 hx1 HSN
                rw [show ((q : Int)).toNat = q by omega] at HSN
                clear hq
                have hqP : q < A.length := by rw [← HN.out]; omega
                have hqn : q < n := by omega
                obtain ⟨b4, o4, cp4, r2, hs4, _, hcc4, hr2⟩ := mat_cell (HAL.out wr HB1r.out) hqP
                rw [← HN.out] at hs4
                simp only [Value.slice.injEq, true_and] at hs4
                obtain ⟨rfl, rfl⟩ := hs4
                have hyb := HABX.out (A.getD q []) (by simp [hqP])
                obtain ⟨yo, yc, hrv, _, _⟩ := sl_open hr2
                rw [hyb.1] at hrv
                subst hrv
                have HR2 : Hid (Sl wr.heap.size 3 wr (.slice yo (d + 1) yc) (ints (A.getD q []))) := hr2.any (Nat.le_refl _)
                have HYB : Hid ((A.getD q []).length = d + 1 ∧ ((A.getD q []).getD d 0).natAbs ≤ 30) := ⟨hyb.1, hyb.2 ((A.getD q []).getD d 0) (getD_mem (by rw [hyb.1]; omega))⟩
                clear hr2 hyb
                generalize A.getD q [] = y at *
                clear hc3 hqP
                have hszr : wa.heap.size ≤ wr.heap.size := HBS.out.size
                have hjI : (j : Int) < (d : Int) := by omega
                have hjI0 : (0 : Int) ≤ (j : Int) := by omega
                have hqnI : (q : Int) < (n : Int) := by omega
                have hqI0 : (0 : Int) ≤ (q : Int) := by omega
                go_wp2_with fail
                refine (copy_any wr.heap.size y _ wr HR2.out (by rw [HYB.out.1]; omega)).mono ?_
                rintro e w3 ⟨u, rfl, ho2, hb2⟩
                rw [HYB.out.1] at ho2
                obtain ⟨g, gc, F, hu, hg, hrow, hF, hgn, hgm⟩ := own_rw ho2 (by omega)
                subst hu
                have ca := hrow.cell (i := d) (by omega)
                have cf := hrow.frozen d
                rw [hF d (by omega)] at ca
                have hzb := HYB.out.2
                have HROW : Hid ((w3.setCell ⟨g, d, none⟩ (.int .i64 (-(y.getD d 0)))).rowIs g 3 gc (fun i => if i = d then .int .i64 (-(y.getD d 0)) else F i)) := hrow.set d _
                have HSL : Hid (∀ Z, Sl Z 3 (w3.setCell ⟨g, d, none⟩ (.int .i64 (-(y.getD d 0)))) (.slice (some ⟨g, 0, none⟩) (d + 1) gc) (ints (ngR d y))) := fun Z => row_slT HROW.out (fun i hi => by
                  show (if i = d then Value.int .i64 (-(y.getD d 0)) else F i) = _
                  rw [ngR_get HYB.out.1 hi]
                  by_cases e : i = d
                  · rw [if_pos e, if_pos e]
                  · rw [if_neg e, if_neg e, hF i hi]) (ngR_len HYB.out.1) hgn hgm
                have HB3 : Hid (Below wr.heap.size wr (w3.setCell ⟨g, d, none⟩ (.int .i64 (-(y.getD d 0))))) := ((Touch.refl _ _).setCell d _).below hb2 hg
                generalize y.getD d 0 = z at *
                have hnz : wrap64 (-z) = -z := IntWalk.wrap64_in _ ⟨by omega, by omega⟩
                have hdI : (d : Int) < (d : Int) + 1 := by omega
                have hdI0 : (0 : Int) ≤ (d : Int) := by omega
                clear hrow hF ho2 hb2
                go_upto_region 19 with fail
                obtain ⟨W3, hW3⟩ : ∃ W3, W3 = w3.setCell ⟨g, d, none⟩ (.int .i64 (-z)) := ⟨_, rfl⟩
                rw [← hW3] at HSL HB3 ⊢
                clear hW3 HROW ca cf
                obtain ⟨vs, g1, g2, g3⟩ := HFS.out.below HB3.out (Nat.le_refl _)
                have hlen := HLN.out
                rw [hlen] at g1 g2 g3
                have G1 : Hid (vs.length = j) := g1
                have G2 : Hid (W3.ownsRow wa.heap.size 38 1 u11 j vs) := g2
                have G3 : Hid (∀ i, i < j → Sl wa.heap.size 3 W3 (vs.getD i (.slice none 0 0)) (ints (((pks A [] (c.take j)).map (ngR d)).getD i []))) := g3
                have hsz3 : wa.heap.size ≤ W3.heap.size := Nat.le_trans hszr HB3.out.size
                have HB3a : Hid (Below wa.heap.size wa W3) := HBS.out.trans (HB3.out.mono hszr)
                clear g1 g2 g3 hlen
                go_wp2_with (first | (at_builtin; refine wpList_append_own _ rfl _ _ 22 rfl wa.heap.size 38 i0 (.slice none 0 0) 1 24 Tryz.underlying22 hi hz0 hz1 hz2 rfl (by decide) _ _ _ rfl (G2.out.alloc _) ⟨W3.heap.size, 0, none⟩ 1 1 [.slice (some ⟨g, 0, none⟩) (d + 1) gc] rfl rfl (one_new _ _ _) (one_slice _ _ _) ?d3 ?d4 ?d5 ?_))
                case d3 => unfold maxLen; omega
                case d4 => omega
                case d5 => simp; omega
                intro v' w4 ho hg' _
                have R1 : Hid (Rws wa.heap.size 38 3 w4 v' ((pks A [] (c.take (j + 1))).map (ngR d))) := by
                  have hp := Rws.push (e2 := 38) (e1 := 3) (m := (pks A [] (c.take j)).map (ngR d)) (u := .slice (some ⟨g, 0, none⟩) (d + 1) gc) (zs := ngR d y) (by decide) (by rw [HLN.out]; exact G1.out) (by rw [HLN.out]; exact G2.out.alloc _)
                    (fun i hi => (G3.out i (by rw [HLN.out] at hi; exact hi)).alloc _) ((HSL.out _).alloc _) (by rw [HLN.out]; exact ho) hg'
                  rw [← HSN.out] at hp
                  exact hp
                have R2 : Hid (Below wa.heap.size wa w4) := (HB3a.out.alloc hsz3 _).grown hg' (by simp; omega) (fun x hx => (G2.out.lt x hx).1)
                clear ho hg'
                go_wp2
                go_roundw
                case rel => exact ⟨j + 1, by omega, by go_num, R1.out, R2.out⟩
                case measure => simp [intOf]; omega
              · obtain rfl : d = j := by omega
                have HT : Hid (Rws wa.heap.size 38 3 wr u11 ((pks A [] c).map (ngR d))) := by
                  have := HFS.out
                  rw [List.take_of_length_le (by rw [HCD.out]; exact Nat.le_refl _)] at this
                  exact this
                clear HFS hj hjl
                have HTL : Hid ((pks A [] c).length = d) := by show _ = _; rw [← HCD.out]; simp [pks]
                have HTM : Hid (∀ x ∈ pks A [] c, x ∈ A) := pks_inE fun q hq => by
                  obtain ⟨i, hi, rfl⟩ := List.mem_iff_getElem.1 hq
                  have := HCQ.out i (by rw [← HCD.out]; exact hi)
                  rw [← HN.out]
                  simpa [hi] using this
                generalize pks A [] c = t at *
                have HTX : Hid (Mx (d + 1) 60 (t.map (ngR d))) := ng_mxE (fun x hx => HABX.out x (HTM.out x hx)) hd
                go_wp2_with fail
                refine (normalR_own (d + 1) 60 wa.heap.size (t.map (ngR d)) u11 wr HTX.out (HT.out.mat (Nat.le_refl _)) (by rw [List.length_map, HTL.out]; omega) (by rw [List.length_map, HTL.out]; omega)).mono ?_
                rintro e W5 ⟨nv, rfl, hns, hbn⟩
                have HNS : Hid (Sl 0 3 W5 nv (ints (normL (d + 1) (t.map (ngR d))))) := hns
                have HB5 : Hid (Below wa.heap.size wa W5) := HBS.out.trans (hbn.mono HBS.out.size)
                clear hns hbn
                cases hnb : normB (d + 1) (t.map (ngR d))
                case false =>
                  have HP0 : Hid (ptT R d t = none) := by show _ = _; unfold ptT; rw [hnb]; simp
                  have HBX5 : Hid (Below w2.heap.size w2 W5) := HB.out.trans (HB5.out.mono hsza)
                  have HQ1 : Hid (∀ q, q < k + 1 → ptT R d (pks A [] (C.getD q [])) = none) := HNX.out HP0.out
                  clear hnb
                  go_wp2
                  go_roundw
                  case rel => exact ⟨k + 1, hlt, by go_num, HQ1.out,  HBX5.out⟩
                  case measure => simp [intOf]; omega
                case true =>
                  have HNB : Hid (normB (d + 1) (t.map (ngR d)) = true) := hnb
                  obtain ⟨nb, no, nc, hnv, hnc, hxd⟩ := sl_cell HNS.out (k := d) (by rw [norm_len hnb]; omega)
                  rw [norm_len hnb] at hnv
                  subst hnv
                  have HYD : Hid (ptY d t = if (normL (d + 1) (t.map (ngR d))).getD d 0 < 0 then (normL (d + 1) (t.map (ngR d))).map (fun z => -z) else normL (d + 1) (t.map (ngR d))) := rfl
                  have HYL : Hid ((ptY d t).length = d + 1 ∧ ∀ z ∈ ptY d t, z.natAbs ≤ 1000000000000) := ⟨ptY_lenE hnb, ptY_bdE HTX.out⟩
                  have HNL : Hid ((normL (d + 1) (t.map (ngR d))).length = d + 1 ∧ ∀ z ∈ normL (d + 1) (t.map (ngR d)), z.natAbs ≤ 1000000000000) := ⟨norm_len hnb, norm_bd HTX.out⟩
                  have HPT : Hid ((normL (d + 1) (t.map (ngR d))).getD d 0 ≠ 0 → ptT R d t = if ptK R d (ptY d t) = true then some (ptY d t) else none) := fun h0 => by
                    unfold ptT
                    by_cases hk : ptK R d (ptY d t) = true
                    · rw [if_pos ⟨hnb, h0, hk⟩, if_pos hk]
                    · rw [if_neg (fun h => hk h.2.2), if_neg hk]
                  have HP00 : Hid ((normL (d + 1) (t.map (ngR d))).getD d 0 = 0 → ptT R d t = none) := fun h0 => by
                    unfold ptT
                    rw [if_neg (fun h => h.2.1 h0)]
                  clear hnb
                  generalize normL (d + 1) (t.map (ngR d)) = X at *
                  generalize ptY d t = Y at *
                  generalize X.getD d 0 = xd at *
                  have hdI : (d : Int) < (d : Int) + 1 := by omega
                  have hdI0 : (0 : Int) ≤ (d : Int) := by omega
                  by_cases hx0 : xd = 0
                  · subst hx0
                    have HP0 : Hid (ptT R d t = none) := HP00.out rfl
                    have HBX5 : Hid (Below w2.heap.size w2 W5) := HB.out.trans (HB5.out.mono hsza)
                    have HQ1 : Hid (∀ q, q < k + 1 → ptT R d (pks A [] (C.getD q [])) = none) := HNX.out HP0.out
                    go_wp2
                    go_roundw
                    case rel => exact ⟨k + 1, hlt, by go_num, HQ1.out,  HBX5.out⟩
                    case measure => simp [intOf]; omega
                  · have HPK := HPT.out hx0
                    have HPS : Hid (ptT R d t = if ptK R d Y = true then some Y else none) := HPK
                    have hxb : (xd == 0) = false := by simp [hx0]
                    clear HPK HPT HP00
                    by_cases hxn : xd < 0
                    case' pos =>
                      have HYE : Hid (Y = X.map fun z => -z) := by rw [if_pos hxn] at HYD; exact HYD
                      have hxnb : decide (xd < 0) = true := by simp [hxn]
                      go_wp2_with fail
                      refine (turned_any 0 X _ W5 HNS.out (by rw [HNL.out.1]; omega) (fun z hz => by have := HNL.out.2 z hz; omega)).mono ?_
                      rintro e W6 ⟨yv, rfl, hyo, hyb⟩
                      have HYO : Hid (Sl 0 3 W6 yv (ints Y)) := by rw [HYE.out]; exact Sl.own hyo
                      have HB6 : Hid (Below wa.heap.size wa W6) := HB5.out.trans (hyb.mono HB5.out.size)
                      clear hyo hyb hxd HYE
                      go_wp2
                    case' neg =>
                      have HYE : Hid (Y = X) := by rw [if_neg hxn] at HYD; exact HYD
                      have hxnb : decide (xd < 0) = false := by simp [hxn]
                      go_wp2
                      have HYV : Hid (Sl 0 3 W5 (.slice (some ⟨nb, no, none⟩) (d + 1) nc) (ints Y)) := by rw [HYE.out]; exact HNS.out
                      have HB6 : Hid (Below wa.heap.size wa W5) := HB5.out
                      clear hxd HYE HNS
                      generalize Value.slice (some (⟨nb, no, none⟩ : Addr)) (d + 1) nc = yv at *
                      obtain ⟨W6, rfl⟩ : ∃ W6, W6 = W5 := ⟨_, rfl⟩
                      have HYO : Hid (Sl 0 3 W6 yv (ints Y)) := HYV.out
                      clear HYV
                    all_goals
                      obtain ⟨yo, yc, hyv, _, _⟩ := sl_open HYO.out
                      rw [HYL.out.1] at hyv
                      subst hyv
                      obtain ⟨yb, yf, yc2, hy2, _, hyd⟩ := sl_cell HYO.out (k := d) (by rw [HYL.out.1]; omega)
                      rw [HYL.out.1] at hy2
                      simp only [Value.slice.injEq, true_and] at hy2
                      obtain ⟨rfl, rfl⟩ := hy2
                      have HYDC : Hid (∀ W, Qe W6 W → W.cell? ⟨yb, yf + d, none⟩ = some (.int .i64 (Y.getD d 0))) := fun W hq => by
                        obtain ⟨m, rfl⟩ := hq
                        exact hyd
                      have HYDB : Hid ((Y.getD d 0).natAbs ≤ 1000000000000) := HYL.out.2 _ (getD_mem (by rw [HYL.out.1]; omega))
                      have HBW6 : Hid (Below w.heap.size w W6) := HBa.out.trans (HB6.out.mono HBa.out.size)
                      have HB16 : Hid (Below w1.heap.size w1 W6) := HB1a.out.trans (HB6.out.mono HB1a.out.size)
                      clear hyd
                      go_loopw [16, 17] (fun p i wq => ∃ j : Nat, j ≤ nr ∧ i = .int .i64 j ∧ p = .bool ((R.take j).all fun r => decide (dotL (r.take d) Y ≤ r.getD d 0 * Y.getD d 0)) ∧ Qe W6 wq) (fun _ i _ => nr - (intOf i).toNat)
                      case atStart => exact ⟨0, Nat.zero_le _, rfl, rfl, Qe.refl _⟩
                      case round =>
                        obtain ⟨j, hj, rfl, rfl, hqw⟩ := hrel
                        have HQ : Hid (Qe W6 wr) := hqw
                        have HBq : Hid (Below w.heap.size w wr) := HBW6.out.trans hqw.below
                        have HB1q : Hid (Below w1.heap.size w1 wr) := HB16.out.trans hqw.below
                        have HB9 : Hid (Below wa.heap.size wa wr) := HB6.out.trans hqw.below
                        have hyd := HYDC.out wr hqw
                        have HPF : Hid (((R.take j).all fun r => decide (dotL (r.take d) Y ≤ r.getD d 0 * Y.getD d 0)) = false → ptK R d Y = false) := fun h => by
                          rw [List.all_eq_false] at h
                          obtain ⟨x, hx, hx2⟩ := h
                          unfold ptK
                          rw [List.all_eq_false]
                          exact ⟨x, List.mem_of_mem_take hx, hx2⟩
                        clear hqw
                        by_cases hjl : j < nr ∧ ((R.take j).all fun r => decide (dotL (r.take d) Y ≤ r.getD d 0 * Y.getD d 0)) = true
                        · obtain ⟨hjl, hpt⟩ := hjl
                          have hjR : j < R.length := by rw [← HNR.out]; exact hjl
                          obtain ⟨b4, o4, cp4, xv, hs4, _, hcc4, hx4⟩ := mat_cell (HRW.out wr HBq.out) hjR
                          rw [← HNR.out] at hs4
                          simp only [Value.slice.injEq, Option.some.injEq, true_and] at hs4
                          obtain ⟨rfl, rfl⟩ := hs4
                          have hrb := HRBX.out (R.getD j []) (by simp [hjR])
                          obtain ⟨rb, rf, rc, hxv, hrc, hrd⟩ := sl_cell hx4 (k := d) (by rw [hrb.1]; omega)
                          have hx4' := hx4
                          rw [hxv] at hx4'
                          have htk := Sl.takeE (n := d) hx4' (by rw [hrb.1]; omega)
                          rw [hrb.1] at hxv hrc
                          subst hxv
                          have HTJ : Hid (((R.take (j + 1)).all fun r => decide (dotL (r.take d) Y ≤ r.getD d 0 * Y.getD d 0)) = decide (dotL ((R.getD j []).take d) Y ≤ (R.getD j []).getD d 0 * Y.getD d 0)) := by
                            show _ = _
                            have e : R.take (j + 1) = R.take j ++ [R.getD j []] := by rw [List.take_succ_eq_append_getElem hjR]; simp [hjR]
                            rw [e, List.all_append, hpt]
                            simp
                          have HDT : Hid (∀ m, Calls Tryz.prog 19 #[.slice (some ⟨rb, rf, none⟩) d rc, .slice (some ⟨yb, yf, none⟩) (d + 1) yc] (wr.drewN m) fun e w' => e = .returned (.int .i64 (dotL ((R.getD j []).take d) Y)) ∧ ∃ k, w' = (wr.drewN m).drewN k) := fun m => by
                            obtain ⟨m2, hm2⟩ := HQ.out
                            subst hm2
                            have hZ2 : Sl 0 3 (W6.drewN m2) (.slice (some ⟨yb, yf, none⟩) (d + 1) yc) (ints Y) := HYO.out.drewN m2
                            exact dotE_any _ _ Y _ _ _ (htk.drewN m) ((hZ2.drewN m).more (Nat.zero_le _)) ⟨by have := HYL.out.1; simp; omega, by simp; omega, fun z hz => by have := hrb.2 z (List.mem_of_mem_take hz); omega, HYL.out.2⟩
                          have hrdb := hrb.2 ((R.getD j []).getD d 0) (getD_mem (by rw [hrb.1]; omega))
                          have hpb : ((R.getD j []).getD d 0 * Y.getD d 0).natAbs ≤ 30 * 1000000000000 := by
                            rw [Int.natAbs_mul]
                            exact Nat.mul_le_mul (by omega) HYDB.out
                          rw [hpt]
                          clear hx4 hx4' htk hrb hrdb hjR hpt
                          generalize dotL ((R.getD j []).take d) Y = D at *
                          generalize (R.getD j []).getD d 0 = rd at *
                          generalize Y.getD d 0 = yd at *
                          have hjI : (j : Int) < (nr : Int) := by omega
                          have hjI0 : (0 : Int) ≤ (j : Int) := by omega
                          have hw1 : wrap64 (rd * yd) = rd * yd := IntWalk.wrap64_in _ ⟨by omega, by omega⟩
                          have hw2 : IntKind.i64.wrap (rd * yd) = rd * yd := by rw [IntWalk.i64_left]; exact hw1
                          have hdc : (d : Int) ≤ (rc : Int) := by omega
                          have hdc2 : d ≤ rc := by omega
                          clear hpb
                          go_wp2
                          go_quiet ((go_at_call 19; exact Calls.quiet_of (w := wr) (HDT.out _)))
                          go_wp2
                          exact ⟨⟨j + 1, hjl, by go_num, by rw [HTJ.out], HQ.out.drewN nq⟩, by simp [intOf]; omega⟩
                        · have HPE : Hid (((R.take j).all fun r => decide (dotL (r.take d) Y ≤ r.getD d 0 * Y.getD d 0)) = ptK R d Y) := by
                            show _ = _
                            cases hpt : ((R.take j).all fun r => decide (dotL (r.take d) Y ≤ r.getD d 0 * Y.getD d 0)) with
                            | false => exact (HPF.out hpt).symm
                            | true =>
                              have hjn : ¬ j < nr := fun h => hjl ⟨h, hpt⟩
                              rw [← hpt, List.take_of_length_le (show R.length ≤ j by rw [← HNR.out]; omega)]
                              rfl
                          have hjb : (decide ((j : Int) < (nr : Int)) && ((R.take j).all fun r => decide (dotL (r.take d) Y ≤ r.getD d 0 * Y.getD d 0))) = false := by
                            rw [Bool.eq_false_iff]
                            intro h
                            rw [Bool.and_eq_true, decide_eq_true_eq] at h
                            exact hjl ⟨by omega, h.2⟩
                          have HBX9 : Hid (Below w2.heap.size w2 wr) := HB.out.trans (HB9.out.mono hsza)
                          rw [HPE.out] at hjb ⊢
                          clear hjl HPF
                          generalize ptK R d Y = pb at *
                          cases pb
                          case false =>
                            have HP0 : Hid (ptT R d t = none) := by show _ = _; rw [HPS.out]; rfl
                            have HQ1 : Hid (∀ q, q < k + 1 → ptT R d (pks A [] (C.getD q [])) = none) := HNX.out HP0.out
                            go_wp2
                            all_goals exact ⟨⟨k + 1, hlt, by go_num, HQ1.out, HBX9.out⟩, by simp [intOf]; omega⟩
                          case true =>
                            have HP1 : Hid (docE d R = false) := HHIT.out (by rw [HPS.out]; simp)
                            have hjb' : decide ((j : Int) < (nr : Int)) = false := by rw [Bool.and_true] at hjb; exact hjb
                            have hjn : ¬ (j : Int) < (nr : Int) := of_decide_eq_false hjb'
                            have hjn2 : decide (j < nr) = false := decide_eq_false (by omega)
                            clear hjb
                            go_wp2
                            go_ret
                            exact ⟨by rw [HP1.out]; rfl, HBq.out⟩
          · have HP1 : Hid (docE d R = true) := by
              show _ = _
              rw [HDE.out, List.all_eq_true]
              intro c hc
              obtain ⟨q, hq, rfl⟩ := List.getElem_of_mem hc
              have := HST.out q (by omega)
              rw [show C.getD q [] = C[q] by simp [hq]] at this
              rw [this]; rfl
            go_wp2
            go_ret
            exact ⟨by rw [HP1.out]; rfl, HBa.out⟩

end Go.Proofs.YtknomkajibfmlaaGreat
