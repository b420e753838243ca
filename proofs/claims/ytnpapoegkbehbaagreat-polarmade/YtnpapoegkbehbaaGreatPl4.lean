/- PolarSays of points around 0. -/
import Derived.Test.YtnpapoegkbehbaaGreatPl3
import Derived.Test.YtnpapoegkbehbaaGreatPm1
import Derived.Test.YtnpapoegkbehbaaGreatPt4
import Derived.Test.YtnpapoegkbehbaaGreatHmW
import Derived.Deep.QuietTactic
import Derived.BigQuiet
namespace Go.Proofs.YtnpapoegkbehbaaGreat
open Go.RowKit
attribute [local go_sem ↓] Go.wp_at_zero Go.wp_at_succ

/-- Are the last numbers of the first k rows 1? -/
def oneT (d : Nat) (q : List (List Int)) (k : Nat) : Bool := allOne d (q.take k)
theorem oneT_zero (d : Nat) (q : List (List Int)) : oneT d q 0 = true := rfl
theorem oneT_all (d : Nat) (q : List (List Int)) : oneT d q q.length = allOne d q := by simp [oneT]
theorem oneT_succ (d : Nat) (q : List (List Int)) (k : Nat) (h : k < q.length) : oneT d q (k + 1) = (oneT d q k && ((q.getD k []).getD d 0 == 1)) := by
  unfold oneT allOne
  rw [List.take_succ_eq_append_getElem h, List.any_append, show q.getD k [] = q[k] by simp [h]]
  simp

theorem slq_cut {B : Nat} {w : World} {a : Addr} {n c c' d : Nat} {l : List Int} (h : Sl B 3 w (.slice (some a) n c) (ints l)) (hd : d ≤ l.length) (h1 : d ≤ c') (h2 : c' ≤ maxLen) : Sl B 3 w (.slice (some a) d c') (ints (l.take d)) := by
  obtain ⟨ao, cap, hv, _, _, h3, _⟩ := h
  simp only [Value.slice.injEq] at hv
  obtain ⟨rfl, _, _⟩ := hv
  refine ⟨some a, c', by simp [show min d l.length = d by omega], by simp; omega, h2, fun i hi => ?_, fun e => by cases e⟩
  simp at hi
  obtain ⟨b, o, e, hc, ht⟩ := h3 i (by simp; omega)
  refine ⟨b, o, e, hc.trans ?_, ht⟩
  rw [ints_get _ _ (by omega), ints_get _ _ (by simp; omega)]
  simp [show i < d by omega]

theorem sasc_some (m : List (List Int)) : ∃ s : List (List Int), SAsc s ∧ ∀ r, r ∈ s ↔ r ∈ m := by
  have ins : ∀ (x : List Int) (s : List (List Int)), SAsc s → ∃ t, SAsc t ∧ ∀ r, r ∈ t ↔ r = x ∨ r ∈ s := by
    intro x s
    induction s with
    | nil => intro _; exact ⟨[x], List.pairwise_singleton _ _, fun r => by simp⟩
    | cons a s ih =>
      intro h
      unfold SAsc at h
      rw [List.pairwise_cons] at h
      by_cases h1 : cmpL x a < 0
      · refine ⟨x :: a :: s, ?_, fun r => by simp⟩
        unfold SAsc
        refine List.pairwise_cons.2 ⟨fun y hy => ?_, List.pairwise_cons.2 h⟩
        rcases List.mem_cons.1 hy with rfl | hy
        · exact h1
        · exact cmpL_trans _ _ _ h1 (h.1 y hy)
      · by_cases h2 : cmpL a x < 0
        · obtain ⟨t, t1, t2⟩ := ih h.2
          refine ⟨a :: t, ?_, fun r => ?_⟩
          · unfold SAsc
            refine List.pairwise_cons.2 ⟨fun y hy => ?_, t1⟩
            rcases (t2 y).1 hy with rfl | hy
            · exact h2
            · exact h.1 y hy
          · simp only [List.mem_cons, t2]
            exact ⟨fun h => by rcases h with h | h | h <;> simp [h], fun h => by rcases h with h | h | h <;> simp [h]⟩
        · have e := cmpL_eq _ _ h1 h2
          subst e
          exact ⟨x :: s, List.pairwise_cons.2 h, fun r => by simp⟩
  induction m with
  | nil => exact ⟨[], List.Pairwise.nil, fun r => Iff.rfl⟩
  | cons x m ih =>
    obtain ⟨s, s1, s2⟩ := ih
    obtain ⟨t, t1, t2⟩ := ins x s s1
    exact ⟨t, t1, fun r => by rw [t2, s2]; simp⟩

set_option maxRecDepth 100000 in
set_option maxHeartbeats 3200000 in
theorem polarSays_ok (d : Nat) (P q : List (List Int)) (v : Value) (w : World) (hv : Mat w.heap.size 22 3 w v P) (hG : PlG d P q) :
    Calls Tryz.prog 4 #[.agg #[.int .i64 d, v]] w fun e w' => e = .returned (.bool true) ∧ Below w.heap.size w w' := by
  obtain ⟨ao, cap, hvv, hlc, hcm⟩ := mat_open hv
  obtain ⟨vl, hvl⟩ : ∃ vl, vl = P.length := ⟨_, rfl⟩
  rw [← hvl] at hvv
  subst hvv
  obtain ⟨g, hgd⟩ : ∃ g, g = w.heap.size := ⟨_, rfl⟩
  obtain ⟨W, hW⟩ : ∃ W, W = w.alloc (.cells #[.int .i64 d, .slice ao vl cap] 26) := ⟨_, rfl⟩
  have hbw : Below w.heap.size w W := by rw [hW]; exact (Below.refl _ _).alloc (Nat.le_refl _) _
  have hsW : W.heap.size = g + 1 := by rw [hW, hgd]; simp
  have c0 : W.cell? ⟨g, 0, none⟩ = some (.int .i64 d) := by rw [hgd, hW]; simp
  have c1 : W.cell? ⟨g, 1, none⟩ = some (.slice ao vl cap) := by rw [hgd, hW]; simp
  have HC : Hid (∀ W', Below W.heap.size W W' → W'.cell? ⟨g, 0, none⟩ = some (.int .i64 d) ∧ W'.cell? ⟨g, 1, none⟩ = some (.slice ao vl cap)) := fun W' hB => ⟨(hB.cell (lt_of_cell c0)).trans c0, (hB.cell (lt_of_cell c1)).trans c1⟩
  have HV : Hid (∀ W', Below W.heap.size W W' → Mat W'.heap.size 22 3 W' (.slice ao vl cap) P) := fun W' hB => ((hv.below hbw (Nat.le_refl _)).any (B' := W.heap.size) (by omega) |>.below hB (Nat.le_refl _)).any (Nat.le_refl _)
  have HG : Hid (PlG d P q) := hG
  have HHV := heavy_any W.heap.size P (.slice ao vl cap) W (HV.out W (Below.refl _ _))
  have HPM : Hid (Calls Tryz.prog 8 #[.agg #[.int .i64 d, .slice ao vl cap]] W fun e w' => e = .returned (.int .i64 0) ∧ Below W.heap.size W w') := polarMay_any d P _ W (HV.out W (Below.refl _ _)) hG.good hG.box hG.n16 hG.pos
  have HPO : Hid (∀ W', Below W.heap.size W W' → Calls Tryz.prog 9 #[.agg #[.int .i64 d, .slice ao vl cap]] W' fun e w' => ∃ xo xc, e = .returned (.slice xo q.length xc) ∧ (Mat w'.heap.size 22 3 w' (.slice xo q.length xc) q ∧ Below W.heap.size W w')) := fun W' hB => (polarOf_any d P q _ W' (HV.out W' hB) hG.good hG.box hG.d3 hG.n16 hG.pos hG.asc hG.mem).mono fun e w' ⟨x, h1, h2, h3⟩ => by
    obtain ⟨xo, xc, rfl, _, _⟩ := mat_open h2
    exact ⟨xo, xc, h1, h2, hB.trans (h3.mono hB.size)⟩
  have HCO : Hid (∀ W', Below W.heap.size W W' → Calls Tryz.prog 10 #[.agg #[.int .i64 d, .slice ao vl cap]] W' fun e w' => ∃ uo uc, e = .returned (.tuple #[.slice uo q.length uc, .int .i64 0]) ∧ (Mat w'.heap.size 22 3 w' (.slice uo q.length uc) q ∧ Below W'.heap.size W' w')) := fun W' hB => (corners_any d P q _ W' (HV.out W' hB) hG).mono fun e w' ⟨uo, uc, h1, h2, h3⟩ => ⟨uo, uc, h1, h2.rws.mat h3.size, h3⟩
  have HWH : Hid (∀ W', Below W.heap.size W W' → Calls Tryz.prog 11 #[.agg #[.int .i64 d, .slice ao vl cap]] W' fun e w' => e = .returned (.tuple #[.bool (allOne d q), .int .i64 0]) ∧ Below W'.heap.size W' w') := fun W' hB => whole_any d P q _ W' (HV.out W' hB) hG
  have HTU : Hid (∀ W', Below W.heap.size W W' → Calls Tryz.prog 13 #[.agg #[.int .i64 d, .slice ao vl cap]] W' fun e w' => (allOne d q = true → ∃ uo ul uc, e = .returned (.tuple #[.agg #[.int .i64 d, .slice uo ul uc], .int .i64 0]) ∧ ul = q.length ∧ Mat 0 22 3 w' (.slice uo ul uc) (lessL d q)) ∧ (allOne d q = false → e = .returned (.tuple #[.agg #[.int .i64 0, .slice none 0 0], .int .i64 3])) ∧ Below W'.heap.size W' w') := fun W' hB => polarTurn_any d P q _ W' (HV.out W' hB) hG
  have HLI : Hid (∀ (W' : World) uo uc xo xc, Mat W'.heap.size 22 3 W' (.slice uo q.length uc) q → Mat W'.heap.size 22 3 W' (.slice xo q.length xc) q → Calls Tryz.prog 12 #[.slice uo q.length uc, .int .i64 0, .slice xo q.length xc, .int .i64 0] W' fun e w' => e = .returned (.bool true) ∧ Below W'.heap.size W' w') := fun W' uo uc xo xc h1 h2 => lists_same _ q _ _ W' h1 h2
  have HROW : Hid (∀ r ∈ q, r.length = d + 1) := fun r hr => hG.len hr
  have hql := hG.many
  have hd3 := hG.d3
  have HBW : Hid (Below w.heap.size w W ∧ w.heap.size ≤ W.heap.size) := ⟨hbw, by omega⟩
  have HPS : Hid (∀ k, k < q.length → oneT d q (k + 1) = (oneT d q k && ((q.getD k []).getD d 0 == 1))) := fun k hk => oneT_succ d q k hk
  have HPA : Hid (oneT d q q.length = allOne d q) := oneT_all d q
  clear hv hG hsW hbw hvl
  go_enter Tryz.func4, Tryz.ntmps4
  go_wp2_with fail
  rw [← hW, ← hgd]
  clear hW hgd
  refine HHV.mono ?_
  rintro e w1 ⟨bv, rfl, _, hw1⟩
  rw [hw1]
  clear hw1 w1
  cases bv with
  | true =>
    go_wp2
    go_ret
    exact ⟨rfl, HBW.out.1⟩
  | false =>
    clear HHV
    go_wp2_with fail
    refine HPM.out.mono ?_
    rintro e w2 ⟨rfl, hb2⟩
    obtain ⟨d0, d1⟩ := HC.out w2 hb2
    have HP2 := HPO.out w2 hb2
    clear hb2 HPM HPO
    go_wp2_with fail
    refine HP2.mono ?_
    rintro e w3 ⟨xo, xc, rfl, hm3, hb3⟩
    have HM3 : Hid (Mat w3.heap.size 22 3 w3 (.slice xo q.length xc) q) := hm3
    have HB3 : Hid (Below W.heap.size W w3) := hb3
    obtain ⟨d0, d1⟩ := HC.out w3 hb3
    clear hm3 hb3 HP2
    go_wp2
    go_loopw [5, 6] (fun bv iv wr => ∃ k : Nat, k ≤ q.length ∧ iv = .int .i64 (k : Int) ∧ bv = .bool (oneT d q k) ∧ ∃ n, wr = w3.drewN n) (fun _ iv _ => q.length - (intOf iv).toNat)
    case atStart => exact ⟨0, Nat.zero_le _, rfl, rfl, 0, rfl⟩
    case round =>
      obtain ⟨k, hk, rfl, rfl, nn, rfl⟩ := hrel
      by_cases hlt : k < q.length
      · obtain ⟨b, o, cp, r1, hs, hc1, hcc, hr1⟩ := mat_cell HM3.out hlt
        simp only [Value.slice.injEq] at hs
        obtain ⟨rfl, -, rfl⟩ := hs
        have hrl : (q.getD k []).length = d + 1 := HROW.out _ (by simp [hlt])
        obtain ⟨rb, ro, rc, hrs, hrc, hrd⟩ := sl_cell hr1 (k := d) (by omega)
        rw [hrl] at hrs hrc
        subst hrs
        have HSN : Hid (oneT d q (k + 1) = (oneT d q k && ((q.getD k []).getD d 0 == 1))) := HPS.out k hlt
        clear hr1 hrl
        generalize (q.getD k []).getD d 0 = z at *
        generalize oneT d q k = bb at *
        have kI : (k : Int) < (q.length : Int) := by omega
        have kI0 : (0 : Int) ≤ (k : Int) := by omega
        have dI : (d : Int) < ((d + 1 : Nat) : Int) := by omega
        have dI0 : (0 : Int) ≤ (d : Int) := by omega
        cases bb with
        | false =>
          go_wp2
          go_big_quiet (fail)
          go_wp2
          go_roundw
          case rel => exact ⟨k + 1, by omega, by go_num, by rw [HSN.out]; simp, _, rfl⟩
          case measure => simp [intOf]; omega
        | true =>
          go_wp2
          go_big_quiet (fail)
          go_wp2
          go_roundw
          case rel => exact ⟨k + 1, by omega, by go_num, by rw [HSN.out]; simp, _, rfl⟩
          case measure => simp [intOf]; omega
      · have hke : q.length = k := by omega
        subst hke
        rw [HPA.out]
        obtain ⟨wa, hwa⟩ : ∃ wa, wa = w3.drewN nn := ⟨_, rfl⟩
        have hb0 : Below w3.heap.size w3 wa := by rw [hwa]; exact ⟨rfl, rfl, rfl, Nat.le_refl _, fun _ _ => rfl⟩
        have hba : Below W.heap.size W wa := HB3.out.trans (hb0.mono HB3.out.size)
        have HBA : Hid (Below W.heap.size W wa) := hba
        have HMA : Hid (Mat wa.heap.size 22 3 wa (.slice xo q.length xc) q) := (HM3.out.below hb0 (Nat.le_refl _)).any (Nat.le_refl _)
        have HCA := HCO.out wa hba
        obtain ⟨a0, a1⟩ := HC.out wa hba
        rw [← hwa]
        obtain ⟨bb, hbb⟩ : ∃ bb, bb = allOne d q := ⟨_, rfl⟩
        have HBB : Hid (bb = allOne d q) := hbb
        rw [← hbb] at HWH HTU ⊢
        clear hb0 hba hwa HB3 HM3 d0 d1 hbb HPA HPS
        go_wp2_with fail
        refine HCA.mono ?_
        rintro e w4 ⟨uo, uc, rfl, hm4, hb4⟩
        have HB4 : Hid (Below W.heap.size W w4) := HBA.out.trans (hb4.mono HBA.out.size)
        have HMU : Hid (Mat w4.heap.size 22 3 w4 (.slice uo q.length uc) q) := hm4
        have HMX : Hid (Mat w4.heap.size 22 3 w4 (.slice xo q.length xc) q) := (HMA.out.below hb4 (Nat.le_refl _)).any (Nat.le_refl _)
        obtain ⟨b0, b1⟩ := HC.out w4 HB4.out
        have HWA := HWH.out w4 HB4.out
        clear hm4 hb4 HCA HCO HWH HMA HBA a0 a1
        go_wp2_with fail
        refine HWA.mono ?_
        rintro e w5 ⟨rfl, hb5⟩
        have HB5 : Hid (Below W.heap.size W w5) := HB4.out.trans (hb5.mono HB4.out.size)
        have HMX5 : Hid (Mat w5.heap.size 22 3 w5 (.slice xo q.length xc) q) := (HMX.out.below hb5 (Nat.le_refl _)).any (Nat.le_refl _)
        have HLA := HLI.out w5 uo uc xo xc ((HMU.out.below hb5 (Nat.le_refl _)).any (Nat.le_refl _)) HMX5.out
        clear hb5 HWA HMX HMU HB4 b0 b1 HLI
        go_wp2_with fail
        refine HLA.mono ?_
        rintro e w6 ⟨rfl, hb6⟩
        have HB6 : Hid (Below W.heap.size W w6) := HB5.out.trans (hb6.mono HB5.out.size)
        have HMX6 : Hid (Mat w6.heap.size 22 3 w6 (.slice xo q.length xc) q) := (HMX5.out.below hb6 (Nat.le_refl _)).any (Nat.le_refl _)
        obtain ⟨a0, a1⟩ := HC.out w6 HB6.out
        have HTA := HTU.out w6 HB6.out
        clear hb6 HLA HMX5 HB5 HTU
        cases bb with
        | false =>
          go_wp2_with fail
          refine HTA.mono ?_
          rintro e w7 ⟨-, h2, hb7⟩
          have h2 := h2 (by trivial)
          subst h2
          have HB7 : Hid (Below W.heap.size W w7) := HB6.out.trans (hb7.mono HB6.out.size)
          clear hb7 HTA
          go_wp2
          go_ret
          exact ⟨rfl, by
            have h := HBW.out.1.trans (HB7.out.mono HBW.out.2)
            exact h.alloc h.size _⟩
        | true =>
          go_wp2_with fail
          refine HTA.mono ?_
          rintro e w7 ⟨h1, -, hb7⟩
          obtain ⟨tO, tl, tc, rfl, htl, hmt⟩ := h1 (by trivial)
          have HB7 : Hid (Below W.heap.size W w7) := HB6.out.trans (hb7.mono HB6.out.size)
          obtain ⟨W8, hW8⟩ : ∃ W8, W8 = w7.alloc (.cells #[.int .i64 d, .slice tO tl tc] 26) := ⟨_, rfl⟩
          have hb8 : Below w7.heap.size w7 W8 := by rw [hW8]; exact (Below.refl _ _).alloc (Nat.le_refl _) _
          have HB8 : Hid (Below W.heap.size W W8) := HB7.out.trans (hb8.mono HB7.out.size)
          have HMT : Hid (Mat 0 22 3 W8 (.slice tO tl tc) (lessL d q)) := hmt.below hb8 (Nat.le_refl _)
          have HMQ : Hid (Mat W8.heap.size 22 3 W8 (.slice xo q.length xc) q) := ((HMX6.out.below hb7 (Nat.le_refl _)).any (B' := w7.heap.size) (Nat.le_refl _) |>.below hb8 (Nat.le_refl _)).any (Nat.le_refl _)
          obtain ⟨e0, e1⟩ := HC.out W8 HB8.out
          have t0 : W8.cell? ⟨w7.heap.size, 0, none⟩ = some (.int .i64 d) := by rw [hW8]; simp
          have t1 : W8.cell? ⟨w7.heap.size, 1, none⟩ = some (.slice tO tl tc) := by rw [hW8]; simp
          subst htl
          clear hb7 HTA hmt hb8 HMX6 a0 a1
          have e0' := e0
          have t0' := t0
          have t1' := t1
          rw [hW8] at e0' t0' t1'
          go_wp2
          rw [← hW8]
          clear hW8 e0' t0' t1'
          go_loopw [12] (fun iv wr => ∃ k : Nat, k ≤ q.length ∧ iv = .int .i64 (k : Int) ∧ ∃ n, wr = W8.drewN n) (fun iv _ => q.length - (intOf iv).toNat)
          case atStart => exact ⟨0, Nat.zero_le _, rfl, 0, rfl⟩
          case round =>
            obtain ⟨k, hk, rfl, nn2, rfl⟩ := hrel
            by_cases hlt : k < q.length
            · obtain ⟨b, o, cp, r1, hs, hc1, hcc, hr1⟩ := mat_cell HMQ.out hlt
              simp only [Value.slice.injEq] at hs
              obtain ⟨rfl, -, rfl⟩ := hs
              obtain ⟨b2, o2, cp2, r2, hs2, hc2, hcc2, hr2⟩ := mat_cell HMT.out (k := k) (by rw [lessL_len]; exact hlt)
              rw [lessL_len] at hs2
              simp only [Value.slice.injEq] at hs2
              obtain ⟨rfl, -, rfl⟩ := hs2
              have hrl : (q.getD k []).length = d + 1 := HROW.out _ (by simp [hlt])
              have hle : (lessL d q).getD k [] = (q.getD k []).take d := by simp [lessL, hlt]
              rw [hle] at hr2
              obtain ⟨ro, rc, hrv, hrc1, hrc2⟩ := sl_open hr1
              subst hrv
              rw [hrl] at hr1 hcc hrc1
              obtain ⟨so, sc, hsv, _, _⟩ := sl_open hr2
              have hll : ((q.getD k []).take d).length = d := by rw [List.length_take, hrl]; omega
              rw [hll] at hsv
              subst hsv
              have hr0 : Sl W8.heap.size 3 W8 (.slice ro (d + 1) rc) (ints (q.getD k [])) := hr1
              obtain ⟨a, ha⟩ : ∃ a, ro = some a := by
                obtain ⟨ao2, c2, e, _, _, h3, _⟩ := hr0
                obtain ⟨b', o', e2, _⟩ := h3 0 (by rw [ints_length]; omega)
                simp only [Value.slice.injEq] at e
                exact ⟨_, e.1.trans e2⟩
              subst ha
              have hsl := fun w => run_cut2 (a := a) (n := d + 1) (c := rc) (d := d) (by omega) hrc1 w
              have hcut : Sl W8.heap.size 3 W8 (.slice (some a) d rc) (ints ((q.getD k []).take d)) := slq_cut hr0 (by omega) (by omega) (by unfold maxLen; omega)
              obtain ⟨wb, hwb⟩ : ∃ wb, wb = W8.drewN nn2 := ⟨_, rfl⟩
              have z1 : wb.cell? ⟨b, o + k, none⟩ = some (.slice (some a) (d + 1) rc) := by rw [hwb]; exact hcc
              have z2 : wb.cell? ⟨b2, o2 + k, none⟩ = some (.slice so d sc) := by rw [hwb]; exact hcc2
              have z3 : wb.cell? ⟨g, 0, none⟩ = some (.int .i64 d) := by rw [hwb]; exact e0
              have z4 : wb.cell? ⟨w7.heap.size, 1, none⟩ = some (.slice (some ⟨b2, o2, none⟩) q.length tc) := by rw [hwb]; exact t1
              have HSA : Hid (∀ n, Calls Tryz.prog 14 #[.slice so d sc, .slice (some a) d rc] (wb.drewN n) fun e w' => e = .returned (.bool true) ∧ ∃ m, w' = (wb.drewN n).drewN m) := fun n => by
                rw [hwb]
                have h := same_any W8.heap.size ((q.getD k []).take d) ((q.getD k []).take d) (.slice so d sc) (.slice (some a) d rc) ((W8.drewN nn2).drewN n) (((hr2.more (Nat.zero_le _)).drewN nn2).drewN n) ((hcut.drewN nn2).drewN n)
                rw [beq_self_eq_true] at h
                exact h
              have kI : (k : Int) < (q.length : Int) := by omega
              have kI0 : (0 : Int) ≤ (k : Int) := by omega
              have HWB : Hid (∀ n, ∃ m, wb.drewN n = W8.drewN m) := fun n => ⟨nn2 + n, by rw [hwb, World.drewN_drewN]⟩
              rw [← hwb]
              clear hr1 hr2 hr0 hcut hrl hle hll hrc1 hrc2 hwb
              go_wp2
              go_big_quiet ((go_at_call 14; exact Calls.quiet_of (HSA.out _)))
              go_wp2
              go_roundw
              case rel => exact ⟨k + 1, by omega, by go_num, HWB.out _⟩
              case measure => simp [intOf]; omega
            · go_wp2
              go_ret
              exact ⟨rfl, by
                have h := HBW.out.1.trans (HB8.out.mono HBW.out.2)
                exact ⟨h.os, h.tape, h.output, h.size, h.block⟩⟩

end Go.Proofs.YtnpapoegkbehbaaGreat
