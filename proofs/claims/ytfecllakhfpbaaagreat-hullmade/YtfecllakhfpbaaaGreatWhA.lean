import Derived.Test.YtfecllakhfpbaaaGreatWhrAll
import Derived.Test.YtfecllakhfpbaaaGreatWiA
import Derived.Test.YtfecllakhfpbaaaGreatWr11
/- hull.Check, by check.List. -/
namespace Go.Proofs.YtfecllakhfpbaaaGreat
open Go.RowKit
attribute [local go_sem ↓] Go.wp_at_zero Go.wp_at_succ

theorem chk100_ok (B d : Nat) (x : List Int) (u : Value) (w : World) (hu : Sl B 3 w u (ints x)) (hx : x.length = d) (hn : (x.any (farB · 100)) = false) :
    Calls Tryz.prog 33 #[u, .int .i64 d, .int .i64 100] w fun e w' => e = .returned (.int .i64 0) ∧ Below w.heap.size w w' := by
  refine (chkL_any B d 100 x u w hu (by omega) (by omega)).mono ?_
  rintro e w' ⟨rfl, hb⟩
  exact ⟨by rw [if_neg (by simp [hx]), if_neg (by simp [hn])], hb⟩

set_option maxRecDepth 100000 in
set_option maxHeartbeats 1600000 in
theorem hullCheckK (d : Nat) (P : List (List Int)) (v : Value) (w : World) (hv : Mat w.heap.size 22 3 w v P) (hg : Good d P) :
    Calls Tryz.prog 14 #[.agg #[.int .i64 d, v]] w fun e w' => e = .returned (.int .i64 0) ∧ Below w.heap.size w w' := by
  obtain ⟨b, o, cap, r1, hvv, hlc, _, _⟩ := mat_cell hv (k := 0) (by have := hg.n2; omega)
  subst hvv
  have HG : Hid (Good d P) := hg
  have h1 := hg.d1
  have h4 := hg.d4
  have h2 := hg.n2
  have h24 := hg.n24
  obtain ⟨W, hW⟩ : ∃ W, W = w.alloc (.cells #[.int .i64 d, .slice (some ⟨b, o, none⟩) P.length cap] 26) := ⟨_, rfl⟩
  have hbw : Below w.heap.size w W := by rw [hW]; exact alloc_keep _ _
  have HW : Hid (Below w.heap.size w W) := hbw
  have HV : Hid (Mat w.heap.size 22 3 W (.slice (some ⟨b, o, none⟩) P.length cap) P) := hv.below hbw (Nat.le_refl _)
  have hsW : W.heap.size = w.heap.size + 1 := by rw [hW]; exact size_alloc _ _
  have c0 : W.cell? ⟨w.heap.size, 0, none⟩ = some (.int .i64 d) := by rw [hW]; simp
  have c1 : W.cell? ⟨w.heap.size, 1, none⟩ = some (.slice (some ⟨b, o, none⟩) P.length cap) := by rw [hW]; simp
  have HC : Hid (∀ W', Below W.heap.size W W' → W'.cell? ⟨w.heap.size, 0, none⟩ = some (.int .i64 d) ∧ W'.cell? ⟨w.heap.size, 1, none⟩ = some (.slice (some ⟨b, o, none⟩) P.length cap)) := fun W' h => ⟨(h.cell (lt_of_cell c0)).trans c0, (h.cell (lt_of_cell c1)).trans c1⟩
  clear hv hg hbw
  have t1 : decide ((d : Int) < 1) = false := by simp; omega
  have t2 : decide ((4 : Int) < (d : Int)) = false := by simp; omega
  have t3 : decide ((P.length : Int) < 1) = false := by simp; omega
  have t4 : decide ((24 : Int) < (P.length : Int)) = false := by simp; omega
  go_enter Tryz.func14, Tryz.ntmps14
  go_wp2
  rw [← hW]
  clear hW
  go_loopw [27] (fun i wr => ∃ k : Nat, k ≤ P.length ∧ i = .int .i64 k ∧ Below W.heap.size W wr) (fun i _ => P.length - (intOf i).toNat)
  case atStart => exact ⟨0, Nat.zero_le _, rfl, Below.refl _ _⟩
  case round =>
    obtain ⟨k, hk, rfl, hbel⟩ := hrel
    have HB : Hid (Below W.heap.size W wr) := hbel
    have e0 := (HC.out wr hbel).1
    have e1 := (HC.out wr hbel).2
    clear hbel
    by_cases hlt : k < P.length
    · obtain ⟨b2, o2, cp2, rk, hs, hc1, hcc, hrk⟩ := mat_cell (HV.out.below HB.out (Nat.le_refl _)) hlt
      simp only [Value.slice.injEq, Option.some.injEq, Addr.mk.injEq, and_true, true_and] at hs
      obtain ⟨⟨rfl, rfl⟩, rfl⟩ := hs
      obtain ⟨ro, rc, hrv, _, _⟩ := sl_open hrk
      subst hrv
      have hmem : P.getD k [] ∈ P := by simp [hlt]
      have HRK : Hid (Sl w.heap.size 3 wr (.slice ro (P.getD k []).length rc) (ints (P.getD k []))) := hrk
      have HL : Hid ((P.getD k []).length = d) := (HG.out.box _ hmem).1
      have HN : Hid (((P.getD k []).any (farB · 100)) = false) := box_near HG.out.box (by decide) hmem
      clear hrk hmem
      generalize P.getD k [] = q at *
      generalize hql : q.length = ql at *
      have HQ : Hid (q.length = ql) := hql
      clear hql
      go_wp2_with fail
      refine (chk100_ok w.heap.size d q _ wr HRK.out (by rw [HQ.out]; exact HL.out) HN.out).mono ?_
      rintro e w2 ⟨rfl, hb2⟩
      have HB2 : Hid (Below W.heap.size W w2) := HB.out.trans (hb2.mono HB.out.size)
      clear hb2
      go_wp2
      go_roundw
      case rel => exact ⟨k + 1, by omega, by go_num, HB2.out⟩
      case measure => simp [intOf]; omega
    · have HRW : Hid (∀ r ∈ P, r.length = d) := fun r hr => (HG.out.box r hr).1
      have HRB : Hid (∀ r ∈ P, ∀ z ∈ r, z.natAbs ≤ 1000000) := fun r hr z hz => by have := box_small HG.out.box hr z hz; omega
      have HVr : Hid (Mat w.heap.size 22 3 wr (.slice (some ⟨b, o, none⟩) P.length cap) P) := HV.out.below HB.out (Nat.le_refl _)
      have HDF : Hid (Calls Tryz.prog 35 #[.slice (some ⟨b, o, none⟩) P.length cap] wr.drew fun e w' => ∃ xo xl xc, e = .returned (.slice xo xl xc) ∧ (Mat w'.heap.size 22 3 w' (.slice xo xl xc) (diffL P) ∧ Below W.heap.size W w')) := by
        refine (differences_any w.heap.size d P _ wr.drew (HVr.out.drewN 1) (by omega) (by omega) h1 (by omega) HRW.out HRB.out).mono ?_
        rintro e w' ⟨x, rfl, hx, hb⟩
        have hM := hx.mat (B' := w'.heap.size) hb.size
        obtain ⟨xo, xc, hxv, _, _⟩ := mat_open hM
        subst hxv
        exact ⟨xo, _, xc, rfl, hM, HB.out.drew.trans (hb.mono HB.out.size)⟩
      have HRK : Hid (∀ w' xo xl xc, Mat w'.heap.size 22 3 w' (.slice xo xl xc) (diffL P) → Below W.heap.size W w' → Calls Tryz.prog 34 #[.slice xo xl xc, .int .i64 d] w' fun e w'' => e = .returned (.int .i64 d) ∧ Below W.heap.size W w'') := fun w' xo xl xc hM hb => by
        have hmx := diff_mx HG.out.box h1 (show d ≤ 5 by omega)
        refine (rankP_any w'.heap.size d (diffL P) _ w' hmx hM (by rw [diffL_length]; omega) (by rw [diffL_length]; omega)).mono ?_
        rintro e w'' ⟨rfl, hb2⟩
        exact ⟨by rw [HG.out.full], hb.trans (hb2.mono hb.size)⟩
      have hdd : decide ((d : Int) < (d : Int)) = false := by simp
      go_wp2
      go_region_law (first
        | (refine step_call (o := { dst := some 41, op := _, type := _, pos := _, after := _, guard := _ }) (by rfl) 35 _ 24 (by rfl) _ (by rfl) ⟨_, Tryz.func35, by rfl, by rfl⟩ ?_; refine (HDF.out).mono ?_; rintro e w2 ⟨xo, xl, xc, rfl, hx⟩; refine ⟨_, rfl, ?_⟩; have HX2 : Hid (Mat w2.heap.size 22 3 w2 (.slice xo xl xc) (diffL P) ∧ Below W.heap.size W w2) := hx; have f0 := (HC.out w2 hx.2).1; clear hx)
        | (refine step_call2 (o := { dst := some 44, op := _, type := _, pos := _, after := _, guard := _ }) (by rfl) 34 _ _ 24 3 (by rfl) _ _ (by rfl) (by rfl) ⟨_, Tryz.func34, by rfl, by rfl⟩ ?_; refine (HRK.out w2 xo xl xc HX2.out.1 HX2.out.2).mono ?_; rintro e w3 ⟨rfl, hb3⟩; refine ⟨_, rfl, ?_⟩; have HB3 : Hid (Below W.heap.size W w3) := hb3; have g0 := (HC.out w3 hb3).1; clear hb3))
      all_goals
        go_wp2
        go_ret
        exact ⟨rfl, HW.out.trans (HB3.out.mono HW.out.size)⟩

end Go.Proofs.YtfecllakhfpbaaaGreat

/- hull.Where, by wrap.Rows. -/
namespace Go.Proofs.YtfecllakhfpbaaaGreat
open Go.RowKit
attribute [local go_sem ↓] Go.wp_at_zero Go.wp_at_succ

set_option maxRecDepth 100000 in
set_option maxHeartbeats 3200000 in
theorem whereK_ok (d : Nat) (P : List (List Int)) (x : List Int) (v u : Value) (w : World) (hv : Mat w.heap.size 22 3 w v P) (hu : Sl w.heap.size 3 w u (ints x)) (hg : Good d P) (hx : x.length = d) (hn : (x.any (farB · 100)) = false)
    (hfit : ∀ P' : List (List Int), (∀ r, r ∈ P' ↔ r ∈ P) → RowsFit d (rowsC P' [] d P')) :
    Calls Tryz.prog 18 #[.agg #[.int .i64 d, v], u] w fun e w' => ∃ P' rows, (∀ r, r ∈ P' ↔ r ∈ P) ∧ (∀ r, r ∈ rows ↔ r ∈ rowsC P' [] d P') ∧ e = .returned (.tuple #[.int .i64 (whr rows x), .int .i64 0]) ∧ Below w.heap.size w w' := by
  obtain ⟨b, o, cap, r1, hvv, hlc, _, _⟩ := mat_cell hv (k := 0) (by have := hg.n2; omega)
  subst hvv
  obtain ⟨uo, uc, huu, _, _⟩ := sl_open hu
  rw [hx] at huu
  subst huu
  have HG : Hid (Good d P) := hg
  have h1 := hg.d1
  have h4 := hg.d4
  have h2 := hg.n2
  have h24 := hg.n24
  have HFT : Hid (∀ P' : List (List Int), (∀ r, r ∈ P' ↔ r ∈ P) → RowsFit d (rowsC P' [] d P')) := hfit
  have HN : Hid ((x.any (farB · 100)) = false) := hn
  have HXL : Hid (x.length = d) := hx
  obtain ⟨W, hW⟩ : ∃ W, W = w.alloc (.cells #[.int .i64 d, .slice (some ⟨b, o, none⟩) P.length cap] 26) := ⟨_, rfl⟩
  have hbw : Below w.heap.size w W := by rw [hW]; exact alloc_keep _ _
  have HW : Hid (Below w.heap.size w W) := hbw
  have HV : Hid (Mat w.heap.size 22 3 W (.slice (some ⟨b, o, none⟩) P.length cap) P) := hv.below hbw (Nat.le_refl _)
  have HU : Hid (Sl w.heap.size 3 W (.slice uo d uc) (ints x)) := hu.below hbw (Nat.le_refl _)
  have hsW : W.heap.size = w.heap.size + 1 := by rw [hW]; exact size_alloc _ _
  have c0 : W.cell? ⟨w.heap.size, 0, none⟩ = some (.int .i64 d) := by rw [hW]; simp
  have c1 : W.cell? ⟨w.heap.size, 1, none⟩ = some (.slice (some ⟨b, o, none⟩) P.length cap) := by rw [hW]; simp
  have HC : Hid (∀ W', Below W.heap.size W W' → W'.cell? ⟨w.heap.size, 0, none⟩ = some (.int .i64 d) ∧ W'.cell? ⟨w.heap.size, 1, none⟩ = some (.slice (some ⟨b, o, none⟩) P.length cap)) := fun W' h => ⟨(h.cell (lt_of_cell c0)).trans c0, (h.cell (lt_of_cell c1)).trans c1⟩
  clear hv hu hg hbw hfit hn hx
  go_enter Tryz.func18, Tryz.ntmps18
  go_wp2_with fail
  rw [← hW]
  clear hW
  refine (hullCheckK d P _ W (HV.out.any (by omega)) HG.out).mono ?_
  rintro e w1 ⟨rfl, hb1⟩
  have HB1 : Hid (Below W.heap.size W w1) := hb1
  have e0 := (HC.out w1 hb1).1
  have e1 := (HC.out w1 hb1).2
  clear hb1
  go_wp2_with fail
  refine (chk100_ok w.heap.size d x _ w1 (HU.out.below HB1.out (Nat.le_refl _)) HXL.out HN.out).mono ?_
  rintro e w2 ⟨rfl, hb2⟩
  have hb12 : Below W.heap.size W w2 := HB1.out.trans (hb2.mono HB1.out.size)
  have HB2 : Hid (Below W.heap.size W w2) := hb12
  have e2 := (HC.out w2 hb12).1
  have e3 := (HC.out w2 hb12).2
  clear hb2 hb12 e0 e1
  have HWR : Hid (Calls Tryz.prog 31 #[.slice (some ⟨b, o, none⟩) P.length cap] w2 fun e w'' => ∃ yo yc P' rows, e = .returned (.slice yo rows.length yc) ∧ (Mat w''.heap.size 22 3 w'' (.slice yo rows.length yc) rows ∧ (∀ r, r ∈ P' ↔ r ∈ P) ∧ (∀ r, r ∈ rows ↔ r ∈ rowsC P' [] d P') ∧ Below W.heap.size W w'')) := by
    refine (wrapRows_any d P _ w2 ((HV.out.below HB2.out (Nat.le_refl _)).any (Nat.le_refl _)) HG.out).mono ?_
    rintro e w'' ⟨y, P', rows, rfl, hf, hin, hr, hb2⟩
    have hM2 : Mat w''.heap.size 22 3 w'' y rows := hf.rws.mat hb2.size
    obtain ⟨yo, yc, hyv, _, _⟩ := mat_open hM2
    subst hyv
    exact ⟨yo, yc, P', rows, rfl, hM2, hin.mem, hr.mem, HB2.out.trans (hb2.mono HB2.out.size)⟩
  go_wp2_with fail
  refine HWR.out.mono ?_
  rintro e w4 ⟨yo, yc, P', rows, rfl, hy⟩
  have HY4 : Hid (Mat w4.heap.size 22 3 w4 (.slice yo rows.length yc) rows ∧ (∀ r, r ∈ rows ↔ r ∈ rowsC P' [] d P') ∧ Below W.heap.size W w4) := ⟨hy.1, hy.2.2.1, hy.2.2.2⟩
  have HP4 : Hid (∀ r, r ∈ P' ↔ r ∈ P) := hy.2.1
  clear hy HWR
  · have HRF : Hid (RowsFit d rows) := fun r hr => HFT.out P' HP4.out r ((HY4.out.2.1 r).1 hr)
    have HU4 : Hid (Sl w.heap.size 3 w4 (.slice uo d uc) (ints x)) := HU.out.below HY4.out.2.2 (Nat.le_refl _)
    have hrl : rows.length ≤ 9223372036854775807 := by
      obtain ⟨_, _, _, ha, hb⟩ := mat_open HY4.out.1
      omega
    go_wp2
    try simp only [List.getElem_toArray, List.getElem_cons_succ, List.getElem_cons_zero, Act.put, List.setIfInBounds_toArray, List.set_cons_succ, List.set_cons_zero]
    go_loopw [8, 27] (fun p i wr => ∃ k : Nat, k ≤ rows.length ∧ i = .int .i64 k ∧ p = .int .i64 (whr (rows.take k) x) ∧ Below w4.heap.size w4 wr) (fun _ i _ => rows.length - (intOf i).toNat)
    case atStart => exact ⟨0, Nat.zero_le _, rfl, rfl, Below.refl _ _⟩
    case round =>
      obtain ⟨k, hk, rfl, rfl, hbel⟩ := hrel
      have HB : Hid (Below w4.heap.size w4 wr) := hbel
      clear hbel
      by_cases hlt : k < rows.length
      · obtain ⟨b2, o2, cp2, rk, hs, hc1, hcc, hrk⟩ := mat_cell (HY4.out.1.below HB.out (Nat.le_refl _)) hlt
        simp only [Value.slice.injEq, true_and] at hs
        obtain ⟨rfl, rfl⟩ := hs
        obtain ⟨ro, rc, hrv, _, _⟩ := sl_open hrk
        subst hrv
        have hmem : rows.getD k [] ∈ rows := by simp [hlt]
        have HRK : Hid (Sl w4.heap.size 3 wr (.slice ro (rows.getD k []).length rc) (ints (rows.getD k []))) := hrk
        have HFR := HRF.out _ hmem
        have HLR : Hid ((rows.getD k []).length = x.length + 1) := by show _ = _; rw [HXL.out]; exact HFR.1
        have HSM : Hid (Sm ((rows.getD k []).take x.length) x) := ⟨by rw [List.length_take]; omega, by rw [List.length_take, HXL.out]; omega, by rw [HXL.out]; exact HFR.2, fun z hz => by
          have := List.any_eq_false.1 HN.out z hz
          simp [farB] at this
          omega⟩
        have HUr : Hid (Sl w4.heap.size 3 wr (.slice uo d uc) (ints x)) := (HU4.out.any (Nat.le_refl _)).below HB.out (Nat.le_refl _)
        have HSN : Hid (whr (rows.take (k + 1)) x = max (whr (rows.take k) x) (agn (rows.getD k []) x)) := whr_snoc rows x k hlt
        have hb1 := whr_bd rows x k hk
        clear hrk hmem HFR
        generalize rows.getD k [] = q at *
        generalize hql : q.length = ql at *
        have HQ : Hid (q.length = ql) := hql
        clear hql
        generalize whr (rows.take k) x = p at *
        go_wp2_with fail
        refine (against_any w4.heap.size q x _ _ wr HRK.out HUr.out (by rw [HQ.out]; exact HLR.out) HSM.out).mono ?_
        rintro e w5 ⟨rfl, hb5⟩
        have HB5 : Hid (Below w4.heap.size w4 w5) := HB.out.trans (hb5.mono HB.out.size)
        have hb2 := agn_bd q x
        generalize agn q x = a at *
        clear hb5
        go_wp2
        exact ⟨⟨k + 1, by omega, by go_num, by rw [HSN.out], HB5.out⟩, by simp [intOf]; omega⟩
      · have HE : Hid (rows.take k = rows) := List.take_of_length_le (by omega)
        have HBF : Hid (Below w.heap.size w wr) := (HW.out.trans (HY4.out.2.2.mono HW.out.size)).trans (HB.out.mono (Nat.le_trans HW.out.size HY4.out.2.2.size))
        have HM1 : Hid (∀ r, r ∈ P' ↔ r ∈ P) := HP4.out
        have HM2 : Hid (∀ r, r ∈ rows ↔ r ∈ rowsC P' [] d P') := HY4.out.2.1
        obtain ⟨p, hp⟩ : ∃ p, p = whr (rows.take k) x := ⟨_, rfl⟩
        have HP : Hid (p = whr rows x) := by show _ = _; rw [hp, HE.out]
        rw [← hp]
        clear hp
        go_wp2
        go_ret2
        exact ⟨P', rows, HM1.out, HM2.out, by rw [← HP.out]; rfl, HBF.out⟩

end Go.Proofs.YtfecllakhfpbaaaGreat
