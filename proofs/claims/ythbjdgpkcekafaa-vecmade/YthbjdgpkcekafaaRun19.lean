/- The law of vec: rows that may be. -/
import Derived.Test.YthbjdgpkcekafaaRun18
namespace Go.Proofs.Ythbjdgpkcekafaa
open Go.RowKit
attribute [local go_sem ↓] Go.wp_at_zero Go.wp_at_succ

/-- What the last part of the law comes to, from a world on. -/
theorem detE_ok {m : List (List Int)} (h : vecE m = 0) : detE m = if m.length = wid m then 0 else 3 := if_pos h
theorem normE_ok {m : List (List Int)} (h : vecE m = 0) : normE m = if wid m < 2 then 1 else if normB (wid m) m then 0 else 5 := if_pos h

set_option maxRecDepth 100000 in
set_option maxHeartbeats 4000000 in
theorem vecSays_good (B : Nat) (m : List (List Int)) (v : Value) (w : World) (hv : Mat B 28 3 w v m) (hx0 : vecE m = 0) :
    Calls Try.prog 3 #[v] w fun e w' => e = .returned (.bool true) ∧ Below w.heap.size w w' := by
  obtain ⟨ao, cap, hvv, hlc, hcm⟩ := mat_open hv
  subst hvv
  obtain ⟨hm1, hm24, hmx⟩ := vec_ok hx0
  have HV : Hid (Mat B 28 3 w (.slice ao m.length cap) m) := hv
  have HX0 : Hid (vecE m = 0) := hx0
  have HMX : Hid (Mx (wid m) 60 m) := hmx
  have hw1 : 1 ≤ wid m := hmx.c1
  have hw5 : wid m ≤ 5 := hmx.c5
  obtain ⟨b, o, fo, fc, hao, hcc0, hul, hum⟩ := mat_first hv hm1
  subst hao
  have HFC : Hid (∀ w', Below w.heap.size w w' → w'.cell? ⟨b, o, none⟩ = some (.slice fo (wid m) fc)) := by
    intro w' hb
    exact (hb.cell (lt_of_cell hcc0)).trans hcc0
  clear hcc0
  have hm0I : (0 : Int) < (m.length : Int) := by omega
  clear hv hx0 hmx
  go_enter Try.func3, Try.ntmps3
  go_wp2_with fail
  refine (heavy_any B m _ w HV.out).mono ?_
  rintro e w0 ⟨hvy, rfl, _, rfl⟩
  cases hvy
  · go_wp2_with fail
    refine (vecMay_any B m _ w0 HV.out).mono ?_
    rintro e w1 ⟨rfl, hb1⟩
    have HB1 : Hid (Below w0.heap.size w0 w1) := hb1
    rw [HX0.out]
    clear hb1
    go_wp2_with fail
    refine (vecRank_any B m _ w1 (HV.out.below HB1.out (Nat.le_refl _))).mono ?_
    rintro e w2 ⟨rfl, hb2⟩
    have HB2 : Hid (Below w0.heap.size w0 w2) := HB1.out.trans (hb2.mono HB1.out.size)
    obtain ⟨r, hr⟩ : ∃ r, r = rankA m := ⟨_, rfl⟩
    have HR : Hid (r = ((pickL (wid m) m).length : Nat)) := by rw [hr]; exact if_pos HX0.out
    rw [HX0.out, ← hr]
    clear hb2 hr
    go_wp2_with fail
    refine (vecDet_any B m _ w2 (HV.out.below HB2.out (Nat.le_refl _))).mono ?_
    rintro e w3 ⟨rfl, hb3⟩
    have HB3 : Hid (Below w0.heap.size w0 w3) := HB2.out.trans (hb3.mono HB2.out.size)
    obtain ⟨d, hd⟩ : ∃ d, d = detA m := ⟨_, rfl⟩
    obtain ⟨de, hde⟩ : ∃ de, de = detE m := ⟨_, rfl⟩
    have HD : Hid (d = detA m) := hd
    have HDE : Hid (de = if m.length = wid m then 0 else 3) := by rw [hde]; exact detE_ok HX0.out
    have HDA : Hid (d = if de = 0 then detL m else 0) := by rw [hd, hde]; exact rfl
    rw [← hd, ← hde]
    clear hb3 hd hde
    go_wp2_with fail
    refine (vecNormal_any B m _ w3 (HV.out.below HB3.out (Nat.le_refl _))).mono ?_
    rintro e w4 ⟨uo, uc, rfl, hs4, hb4⟩
    have HB4 : Hid (Below w0.heap.size w0 w4) := HB3.out.trans (hb4.mono HB3.out.size)
    obtain ⟨ne, hne⟩ : ∃ ne, ne = normE m := ⟨_, rfl⟩
    obtain ⟨nl, hnl⟩ : ∃ nl, nl = (normA m).length := ⟨_, rfl⟩
    have HNE : Hid (ne = if wid m < 2 then 1 else if normB (wid m) m then 0 else 5) := by rw [hne]; exact normE_ok HX0.out
    have HNA : Hid (normA m = if ne = 0 then normL (wid m) m else []) := by rw [hne]; exact rfl
    have HNL : Hid (nl = (normA m).length) := hnl
    rw [← hne, ← hnl]
    rw [← hnl] at hs4
    have HS4 : Hid (Sl w4.heap.size 3 w4 (.slice uo nl uc) (ints (normA m))) := hs4
    clear hb4 hs4 hne hnl
    go_wp2_with fail
    refine (rankR_any (wid m) 60 B m _ w4 HMX.out (HV.out.below HB4.out (Nat.le_refl _)) (by omega)).mono ?_
    rintro e w5 ⟨rfl, hb5⟩
    have HB5 : Hid (Below w0.heap.size w0 w5) := HB4.out.trans (hb5.mono HB4.out.size)
    have HS5 : Hid (Sl w4.heap.size 3 w5 (.slice uo nl uc) (ints (normA m))) := HS4.out.below hb5 (Nat.le_refl _)
    rw [← HR.out]
    clear hb5 HS4
    go_wp2_with fail
    refine (check_any B m _ w5 (HV.out.below HB5.out (Nat.le_refl _))).mono ?_
    rintro e w6 ⟨rfl, hb6⟩
    have HB6 : Hid (Below w0.heap.size w0 w6) := HB5.out.trans (hb6.mono HB5.out.size)
    have HS6 : Hid (Sl w4.heap.size 3 w6 (.slice uo nl uc) (ints (normA m))) := HS5.out.below hb6 (Nat.le_refl _)
    rw [HX0.out]
    clear hb6 HS5
    go_wp2_with fail
    refine (num_true r 0 r 0 w6 rfl (fun h => absurd rfl h) (fun _ => rfl)).mono ?_
    rintro e w7 ⟨rfl, rfl⟩
    have hc7 := HFC.out w7 HB6.out
    have HTAIL : Hid (∀ w8, Below w0.heap.size w0 w8 → Below w7.heap.size w7 w8 → w8.cell? ⟨b, o, none⟩ = some (.slice fo (wid m) fc) ∧ Sl w4.heap.size 3 w8 (.slice uo nl uc) (ints (normA m))) :=
      fun w8 h1 h2 => ⟨HFC.out w8 h1, HS6.out.below h2 (Nat.le_refl _)⟩
    by_cases hsq : m.length = wid m
    · have hsb : ((m.length : Int) != (wid m : Int)) = false := by rw [bne_eq_false_iff_eq]; omega
      have hde0 : de = 0 := by have := HDE.out; rw [if_pos hsq] at this; exact this
      have HD0 : Hid (d = detL m) := by have := HDA.out; rw [if_pos hde0] at this; exact this
      have HSQ : Hid (Sq m.length 60 m) := sq_of HMX.out hsq
      subst hde0
      clear hsq
      go_wp2_with fail
      refine (det_any 60 B m _ w7 HSQ.out (HV.out.below HB6.out (Nat.le_refl _))).mono ?_
      rintro e w8 ⟨rfl, hb8⟩
      have HBW : Hid (Below w0.heap.size w0 w8) := HB6.out.trans (hb8.mono HB6.out.size)
      have HBV : Hid (Below w7.heap.size w7 w8) := hb8
      rw [← HD0.out]
      clear hb8
      go_wp2_with fail
      refine (num_true d 0 d 0 w8 rfl (fun h => absurd rfl h) (fun _ => rfl)).mono ?_
      rintro e wy ⟨rfl, rfl⟩
      have hcw := (HTAIL.out wy HBW.out HBV.out).1
      have HSW : Hid (Sl w4.heap.size 3 wy (.slice uo nl uc) (ints (normA m))) := (HTAIL.out wy HBW.out HBV.out).2
      by_cases hn2 : wid m < 2
      · have hnb : decide ((wid m : Int) < 2) = true := decide_eq_true (by omega)
        have hne1 : ne = 1 := by have := HNE.out; rw [if_pos hn2] at this; exact this
        have hnl0 : nl = 0 := by rw [HNL.out, HNA.out, if_neg (by rw [hne1]; decide)]; rfl
        subst hne1 hnl0
        clear hn2
        go_wp2_with fail
        refine (list_err uo uc (.slice none 0 0) 1 wy (by decide)).mono ?_
        rintro e wz ⟨rfl, rfl⟩
        go_wp2
        go_ret
        exact ⟨rfl, HBW.out⟩
      · have hnb : decide ((wid m : Int) < 2) = false := decide_eq_false (by omega)
        have HNE2 : Hid (ne = if normB (wid m) m then 0 else 5) := by have := HNE.out; rw [if_neg hn2] at this; exact this
        clear hn2
        go_wp2_with fail
        refine (normalR_any (wid m) 60 B m _ wy HMX.out (HV.out.below HBW.out (Nat.le_refl _)) (by omega) hm1).mono ?_
        rintro e w9 ⟨y, rfl, hs9, hb9⟩
        have HB9 : Hid (Below w0.heap.size w0 w9) := HBW.out.trans (hb9.mono HBW.out.size)
        have HS9 : Hid (Sl w4.heap.size 3 w9 (.slice uo nl uc) (ints (normA m))) := HSW.out.below hb9 (Nat.le_refl _)
        obtain ⟨yo, yc, hy, _, _⟩ := sl_open hs9
        subst hy
        have HY9 : Hid (Sl wy.heap.size 3 w9 (.slice yo (normL (wid m) m).length yc) (ints (normL (wid m) m))) := hs9
        obtain ⟨yl, hyl⟩ : ∃ yl, yl = (normL (wid m) m).length := ⟨_, rfl⟩
        rw [← hyl] at HY9 ⊢
        clear hs9 hb9 hyl HSW
        cases hnB : normB (wid m) m
        · have hne5 : ne = 5 := by have := HNE2.out; rw [hnB] at this; exact this
          have hnl0 : nl = 0 := by rw [HNL.out, HNA.out, if_neg (by rw [hne5]; decide)]; rfl
          subst hne5 hnl0
          go_wp2_with fail
          refine (list_err uo uc (.slice yo yl yc) 5 w9 (by decide)).mono ?_
          rintro e wz ⟨rfl, rfl⟩
          go_wp2
          go_ret
          exact ⟨rfl, HB9.out⟩
        · have hne0 : ne = 0 := by have := HNE2.out; rw [hnB] at this; exact this
          have HNA0 : Hid (normA m = normL (wid m) m) := by have := HNA.out; rw [if_pos hne0] at this; exact this
          subst hne0
          go_wp2_with fail
          refine (list_same w9.heap.size (normL (wid m) m) (.slice uo nl uc) (.slice yo yl yc) w9 (by rw [← HNA0.out]; exact HS9.out.any (Nat.le_refl _)) (HY9.out.any (Nat.le_refl _))).mono ?_
          rintro e wz ⟨rfl, hbz⟩
          have HBZ : Hid (Below w0.heap.size w0 wz) := HB9.out.trans (hbz.mono HB9.out.size)
          clear hbz
          go_wp2
          go_ret
          exact ⟨rfl, HBZ.out⟩
    · have hsb : ((m.length : Int) != (wid m : Int)) = true := by rw [bne_iff_ne]; omega
      have hde3 : de = 3 := by have := HDE.out; rw [if_neg hsq] at this; exact this
      have hd0 : d = 0 := by have := HDA.out; rw [if_neg (by rw [hde3]; decide)] at this; exact this
      subst hde3 hd0
      have HBW : Hid (Below w0.heap.size w0 w7) := HB6.out
      have HBV : Hid (Below w7.heap.size w7 w7) := Below.refl _ _
      clear hsq
      go_wp2_with fail
      refine (num_true 0 3 0 3 w7 rfl (fun _ => rfl) (fun h => absurd h (by decide))).mono ?_
      rintro e wy ⟨rfl, rfl⟩
      have hcw := (HTAIL.out wy HBW.out HBV.out).1
      have HSW : Hid (Sl w4.heap.size 3 wy (.slice uo nl uc) (ints (normA m))) := (HTAIL.out wy HBW.out HBV.out).2
      by_cases hn2 : wid m < 2
      · have hnb : decide ((wid m : Int) < 2) = true := decide_eq_true (by omega)
        have hne1 : ne = 1 := by have := HNE.out; rw [if_pos hn2] at this; exact this
        have hnl0 : nl = 0 := by rw [HNL.out, HNA.out, if_neg (by rw [hne1]; decide)]; rfl
        subst hne1 hnl0
        clear hn2
        go_wp2_with fail
        refine (list_err uo uc (.slice none 0 0) 1 wy (by decide)).mono ?_
        rintro e wz ⟨rfl, rfl⟩
        go_wp2
        go_ret
        exact ⟨rfl, HBW.out⟩
      · have hnb : decide ((wid m : Int) < 2) = false := decide_eq_false (by omega)
        have HNE2 : Hid (ne = if normB (wid m) m then 0 else 5) := by have := HNE.out; rw [if_neg hn2] at this; exact this
        clear hn2
        go_wp2_with fail
        refine (normalR_any (wid m) 60 B m _ wy HMX.out (HV.out.below HBW.out (Nat.le_refl _)) (by omega) hm1).mono ?_
        rintro e w9 ⟨y, rfl, hs9, hb9⟩
        have HB9 : Hid (Below w0.heap.size w0 w9) := HBW.out.trans (hb9.mono HBW.out.size)
        have HS9 : Hid (Sl w4.heap.size 3 w9 (.slice uo nl uc) (ints (normA m))) := HSW.out.below hb9 (Nat.le_refl _)
        obtain ⟨yo, yc, hy, _, _⟩ := sl_open hs9
        subst hy
        have HY9 : Hid (Sl wy.heap.size 3 w9 (.slice yo (normL (wid m) m).length yc) (ints (normL (wid m) m))) := hs9
        obtain ⟨yl, hyl⟩ : ∃ yl, yl = (normL (wid m) m).length := ⟨_, rfl⟩
        rw [← hyl] at HY9 ⊢
        clear hs9 hb9 hyl HSW
        cases hnB : normB (wid m) m
        · have hne5 : ne = 5 := by have := HNE2.out; rw [hnB] at this; exact this
          have hnl0 : nl = 0 := by rw [HNL.out, HNA.out, if_neg (by rw [hne5]; decide)]; rfl
          subst hne5 hnl0
          go_wp2_with fail
          refine (list_err uo uc (.slice yo yl yc) 5 w9 (by decide)).mono ?_
          rintro e wz ⟨rfl, rfl⟩
          go_wp2
          go_ret
          exact ⟨rfl, HB9.out⟩
        · have hne0 : ne = 0 := by have := HNE2.out; rw [hnB] at this; exact this
          have HNA0 : Hid (normA m = normL (wid m) m) := by have := HNA.out; rw [if_pos hne0] at this; exact this
          subst hne0
          go_wp2_with fail
          refine (list_same w9.heap.size (normL (wid m) m) (.slice uo nl uc) (.slice yo yl yc) w9 (by rw [← HNA0.out]; exact HS9.out.any (Nat.le_refl _)) (HY9.out.any (Nat.le_refl _))).mono ?_
          rintro e wz ⟨rfl, hbz⟩
          have HBZ : Hid (Below w0.heap.size w0 wz) := HB9.out.trans (hbz.mono HB9.out.size)
          clear hbz
          go_wp2
          go_ret
          exact ⟨rfl, HBZ.out⟩
  · go_wp2
    go_ret
    exact ⟨rfl, Below.refl _ _⟩

end Go.Proofs.Ythbjdgpkcekafaa
