/- named.isEven and named.CheckSquare. -/
import Derived.Test.YtmffbaclgbmnbaaNp0
import Derived.Test.YtmffbaclgbmnbaaReads
import Derived.Deep.OwnRows
namespace Go.Proofs.Ytmffbaclgbmnbaa
open Go.RowKit
attribute [local go_sem ↓] Go.wp_at_zero Go.wp_at_succ

set_option maxRecDepth 100000 in
theorem maxT_any (B : Nat) (zs : List Int) (v : Value) (w : World) (hv : Sl B 3 w v (ints zs)) (hp : 0 < zs.length) :
    Calls Try.prog 24 #[v] w fun e w' => e = .returned (.int .i64 (maxL zs)) ∧ w' = w := by
  obtain ⟨ao, cap, hvv, hlc, hcm⟩ := sl_open hv
  subst hvv
  have HV : Hid (Sl B 3 w (.slice ao zs.length cap) (ints zs)) := hv
  obtain ⟨b0, o0, c0, hs0, _, hcc0⟩ := sl_cell hv hp
  simp only [Value.slice.injEq] at hs0
  obtain ⟨rfl, _, rfl⟩ := hs0
  have HM0 : Hid (zs.getD 0 0 = maxTo zs 0) := rfl
  rw [HM0.out, Nat.add_zero] at hcc0
  have hp0 : (0 : Int) < (zs.length : Int) := by omega
  have b1 : decide ((zs.length : Int) < 1) = false := decide_eq_false (by omega)
  clear hv
  go_enter Try.func24, Try.ntmps24
  go_wp2
  go_loopw [3, 4] (fun m i wr => ∃ k : Nat, k + 1 ≤ zs.length ∧ i = .int .i64 ((k : Int) + 1) ∧ m = .int .i64 (maxTo zs k) ∧ wr = w) (fun _ i _ => zs.length - (intOf i).toNat)
  case atStart => exact ⟨0, hp, rfl, rfl, rfl⟩
  case round =>
    obtain ⟨k, hk, rfl, rfl, rfl⟩ := hrel
    by_cases hlt : k + 1 < zs.length
    · obtain ⟨b1, o1, c1, hs1, _, hcc1⟩ := sl_cell HV.out (k := k + 1) hlt
      simp only [Value.slice.injEq, Option.some.injEq, Addr.mk.injEq] at hs1
      obtain ⟨⟨rfl, rfl, _⟩, _, rfl⟩ := hs1
      have HS : Hid (maxTo zs (k + 1) = if maxTo zs k < zs.getD (k + 1) 0 then zs.getD (k + 1) 0 else maxTo zs k) := rfl
      generalize zs.getD (k + 1) 0 = x at *
      generalize maxTo zs k = m at *
      go_wp2
      go_roundw
      case rel => exact ⟨k + 1, by omega, by go_num, by rw [HS.out], trivial⟩
      case measure => simp [intOf]; omega
    · have HE : Hid (maxTo zs k = maxL zs) := by
        show _ = _
        unfold maxL
        rw [show zs.length - 1 = k by omega]
      rw [HE.out]
      have hkf : decide ((k : Int) + 1 < (zs.length : Int)) = false := by simp; omega
      go_wp2
      go_ret
      exact ⟨rfl, rfl⟩

set_option maxRecDepth 100000 in
set_option maxHeartbeats 1600000 in
theorem isEven_any (m : List (List Int)) (v : Value) (w : World) (hm : Sq0 m) (hv : Mat w.heap.size 22 3 w v m) :
    Calls Try.prog 17 #[v] w fun e w' => e = .returned (.bool (evenB m)) ∧ Below w.heap.size w w' := by
  obtain ⟨ao, cap, hvv, hlc, hcm⟩ := mat_open hv
  subst hvv
  have HM : Hid (Sq0 m) := hm
  have HV : Hid (Mat w.heap.size 22 3 w (.slice ao m.length cap) m) := hv
  have h6 := hm.n6
  have h1 := hm.n1
  clear hv hm
  have hmk := run_make_row' (P := Try.prog) 22 3 (.int .i64 0) 8 Try.underlying22 Try.info3 rfl .i64 .i64 (2 * m.length) (by omega) (by omega)
  obtain ⟨W0, hW0⟩ : ∃ W0, W0 = w.alloc (.cells (madeCells #[.int .i64 0] (2 * m.length)) 3) := ⟨_, rfl⟩
  have HW0 : Hid (W0 = w.alloc (.cells (madeCells #[.int .i64 0] (2 * m.length)) 3)) := hW0
  have HR0 : Hid (W0.rowIs w.heap.size 3 (2 * m.length) (fun q => .int .i64 (evF m 0 0 q))) := by
    rw [hW0]
    exact (World.rowIs_made w _ _ _).congr (fun i hi => by simp [evF_zero])
  have HB0 : Hid (Below w.heap.size w W0) := by rw [hW0]; exact (Below.refl _ _).alloc (Nat.le_refl _) _
  have HEV : Hid ((minL (evS m) == maxL (evS m)) = evenB m) := even_iff h1
  clear hW0
  obtain ⟨n, hn⟩ : ∃ n, n = m.length := ⟨_, rfl⟩
  have HN : Hid (n = m.length) := hn
  have hn2 : (2 : Int) * (m.length : Int) = ((2 * m.length : Nat) : Int) := by omega
  rw [← hn2] at hmk
  have hsz2 : (w.heap.size : Nat) = w.heap.size := rfl
  clear hn2 hn hsz2
  go_enter Try.func17, Try.ntmps17
  go_wp2
  rw [← HW0.out]
  go_loopw [14, 4, 5, 6, 7] (fun i _ _ _ _ wr => ∃ k : Nat, k ≤ m.length ∧ i = .int .i64 k ∧ Below w.heap.size w wr ∧ wr.rowIs w.heap.size 3 (2 * m.length) (fun q => .int .i64 (evF m k 0 q))) (fun i _ _ _ _ _ => m.length - (intOf i).toNat)
  case atStart => exact ⟨0, Nat.zero_le _, rfl, HB0.out, HR0.out⟩
  case round =>
    obtain ⟨i, hi, rfl, hb, hr⟩ := hrel
    have HB : Hid (Below w.heap.size w wr) := hb
    have HR : Hid (wr.rowIs w.heap.size 3 (2 * m.length) (fun q => .int .i64 (evF m i 0 q))) := hr
    obtain ⟨wa, rfl⟩ : ∃ wa, wa = wr := ⟨wr, rfl⟩
    by_cases hlt : i < m.length
    · obtain ⟨vb, voo, vcp, rv, hvs, _, hvcell0, hrv⟩ := mat_cell HV.out hlt
      simp only [Value.slice.injEq] at hvs
      obtain ⟨rfl, -, rfl⟩ := hvs
      have hrl := HM.out.len i hlt
      obtain ⟨uo, uc, hue, hul, hum⟩ := sl_open hrv
      rw [hrl] at hue
      subst hue
      have hvcell := (hb.cell (p := ⟨vb, voo + i, none⟩) (lt_of_cell hvcell0)).trans hvcell0
      have HRV : Hid (Sl w.heap.size 3 w (.slice uo m.length uc) (ints (m.getD i []))) := hrv
      have HRL : Hid ((m.getD i []).length = m.length) := hrl
      clear hb hr hrv hrl hul hum HB0 HR0 hvcell0
      go_wp2
      go_loopw [21, 6, 7] (fun j _ _ wr => ∃ k : Nat, k ≤ m.length ∧ j = .int .i64 k ∧ Below w.heap.size w wr ∧ wr.rowIs w.heap.size 3 (2 * m.length) (fun q => .int .i64 (evF m i k q))) (fun j _ _ _ => m.length - (intOf j).toNat)
      case atStart => exact ⟨0, Nat.zero_le _, rfl, HB.out, HR.out⟩
      case round =>
        obtain ⟨k, hk, rfl, hb, hr⟩ := hrel
        have HB2 : Hid (Below w.heap.size w wr) := hb
        by_cases hkl : k < m.length
        · obtain ⟨b1, o1, c1, hs1, _, hcc0⟩ := sl_cell HRV.out (k := k) (by rw [HRL.out]; exact hkl)
          simp only [Value.slice.injEq] at hs1
          obtain ⟨rfl, -, rfl⟩ := hs1
          have hcc1 := (hb.cell (p := ⟨b1, o1 + k, none⟩) (lt_of_cell hcc0)).trans hcc0
          have hlt1 : b1 < w.heap.size := lt_of_cell hcc0
          rw [show (m.getD i []).getD k 0 = ent m i k from rfl] at hcc1
          have g1 := hr.cell (i := i) (by omega)
          have g2 := hr.cell (i := m.length + k) (by omega)
          have z1 := hr.frozen i
          have z2 := hr.frozen (m.length + k)
          have be := HM.out.bd i k
          have bf1 := evF_bd HM.out hi hk i
          have bf2 := evF_bd HM.out hi hk (m.length + k)
          have HNX : Hid (((wr.setCell ⟨w.heap.size, i, none⟩ (.int .i64 (evF m i k i + ent m i k))).setCell ⟨w.heap.size, m.length + k, none⟩ (.int .i64 (evF m i k (m.length + k) + ent m i k))).rowIs w.heap.size 3 (2 * m.length) (fun q => .int .i64 (evF m i (k + 1) q))) := by
            refine ((hr.set i _).set (m.length + k) _).congr (fun q hq => ?_)
            rw [evF_step hlt]
            by_cases e : q = m.length + k
            · subst e; simp
            · by_cases e2 : q = i
              · subst e2; simp [e]
              · simp [e, e2]
          have HBX : Hid (∀ x y, Below w.heap.size w ((wr.setCell ⟨w.heap.size, i, none⟩ x).setCell ⟨w.heap.size, m.length + k, none⟩ y)) := fun x y => hb.trans ⟨rfl, rfl, rfl, by simp [World.setCell], fun b hb => (Below.heap_setCell _ _ _ _ (by show b ≠ w.heap.size; omega)).trans (Below.heap_setCell _ _ _ _ (by show b ≠ w.heap.size; omega))⟩
          have g3 : (wr.setCell ⟨w.heap.size, i, none⟩ (.int .i64 (evF m i k i + ent m i k))).cell? ⟨w.heap.size, m.length + k, none⟩ = some (.int .i64 (evF m i k (m.length + k))) := by
            have := (hr.set i (.int .i64 (evF m i k i + ent m i k))).cell (i := m.length + k) (by omega)
            rw [this]; simp; intro h; omega
          have z3 : (wr.setCell ⟨w.heap.size, i, none⟩ (.int .i64 (evF m i k i + ent m i k))).frozen? ⟨w.heap.size, m.length + k, none⟩ = false := (hr.set i _).frozen _
          clear hb hr hcc0 g2 z2
          generalize evF m i k i = F1 at *
          generalize evF m i k (m.length + k) = F2 at *
          generalize ent m i k = E at *
          have htn : ((m.length : Int) + (k : Int)).toNat = m.length + k := by omega
          go_wp2
          go_roundw
          case rel => exact ⟨k + 1, by omega, by go_num, HBX.out _ _, HNX.out⟩
          case measure => simp [intOf]; omega
        · have hke : k = m.length := by omega
          subst hke
          have HRN : Hid (wr.rowIs w.heap.size 3 (2 * m.length) (fun q => .int .i64 (evF m (i + 1) 0 q))) := hr.congr fun q hq => by rw [evF_next hlt q hq]
          clear hb hr
          go_wp2
          go_roundw
          case rel => exact ⟨i + 1, by omega, by go_num, HB2.out, HRN.out⟩
          case measure => simp [intOf]; omega
    · have hie : i = m.length := by omega
      subst hie
      have HSL : Hid (Sl 0 3 wa (.slice (some ⟨w.heap.size, 0, none⟩) (2 * m.length) (2 * m.length)) (ints (evS m))) := by
        have := Sl.row (B := 0) hr (xs := ints (evS m)) (by rw [ints_length, evS_len]) (by unfold maxLen; omega) (fun q hq => by rw [ints_get _ _ (by rw [evS_len]; exact hq), evF_end hq])
        exact this
      have HMI : Hid (Calls Try.prog 23 #[.slice (some ⟨w.heap.size, 0, none⟩) (2 * m.length) (2 * m.length)] wa fun e w' => e = .returned (.int .i64 (minL (evS m))) ∧ w' = wa) := minT_any 0 (evS m) _ wa HSL.out (by rw [evS_len]; omega)
      have HMA : Hid (Calls Try.prog 24 #[.slice (some ⟨w.heap.size, 0, none⟩) (2 * m.length) (2 * m.length)] wa fun e w' => e = .returned (.int .i64 (maxL (evS m))) ∧ w' = wa) := maxT_any 0 (evS m) _ wa HSL.out (by rw [evS_len]; omega)
      clear hb hr
      generalize minL (evS m) = X at *
      generalize maxL (evS m) = Y at *
      go_wp2_with fail
      refine HMI.out.mono ?_
      rintro e w' ⟨rfl, hww⟩
      rw [hww]
      clear hww w'
      go_wp2_with fail
      refine HMA.out.mono ?_
      rintro e w' ⟨rfl, hww⟩
      rw [hww]
      clear hww w'
      go_wp2
      go_ret
      exact ⟨ret_bool HEV.out, HB.out⟩

set_option maxRecDepth 100000 in
set_option maxHeartbeats 800000 in
theorem checkSquareN_any (m : List (List Int)) (v : Value) (w : World) (hv : Mat w.heap.size 22 3 w v m) :
    Calls Try.prog 10 #[v] w fun e w' => e = .returned (.int .i64 (evE m)) ∧ Below w.heap.size w w' := by
  obtain ⟨ao, cap, hvv, hlc, hcm⟩ := mat_open hv
  subst hvv
  have HV : Hid (Mat w.heap.size 22 3 w (.slice ao m.length cap) m) := hv
  clear hv
  by_cases h1 : m.length < 1
  · have b1 : decide ((m.length : Int) < 1) = true := decide_eq_true (by omega)
    have HE : Hid (evE m = 2) := by
      have e : cntE m = 2 := if_pos (by omega)
      show _ = _
      unfold evE; rw [e]; rfl
    go_enter Try.func10, Try.ntmps10
    go_wp2
    go_ret
    exact ⟨by rw [HE.out]; rfl, Below.refl _ _⟩
  · have b1 : decide ((m.length : Int) < 1) = false := decide_eq_false (by omega)
    by_cases h2 : 6 < m.length
    · have b2 : decide ((6 : Int) < (m.length : Int)) = true := decide_eq_true (by omega)
      have HE : Hid (evE m = 2) := by
        have e : cntE m = 2 := if_pos (by omega)
        show _ = _
        unfold evE; rw [e]; rfl
      go_enter Try.func10, Try.ntmps10
      go_wp2
      go_ret
      exact ⟨by rw [HE.out]; rfl, Below.refl _ _⟩
    · have b2 : decide ((6 : Int) < (m.length : Int)) = false := decide_eq_false (by omega)
      have HC : Hid (cntE m = rowsN m.length m) := if_neg (by omega)
      have HL : Hid (m.length ≤ 6) := by show _ ≤ _; omega
      go_enter Try.func10, Try.ntmps10
      go_wp2
      go_loopw [16, 4, 5] (fun i _ _ wr => ∃ k : Nat, k ≤ m.length ∧ i = .int .i64 k ∧ Below w.heap.size w wr ∧ ∀ i, i < k → rowN m.length (m.getD i []) = 0) (fun i _ _ _ => m.length - (intOf i).toNat)
      case atStart => exact ⟨0, Nat.zero_le _, rfl, Below.refl _ _, fun i hi => by omega⟩
      case round =>
        obtain ⟨k, hk, rfl, hb, hz⟩ := hrel
        have HB : Hid (Below w.heap.size w wr) := hb
        have HZ : Hid (∀ i, i < k → rowN m.length (m.getD i []) = 0) := hz
        clear hz
        by_cases hlt : k < m.length
        · obtain ⟨vb, voo, vcp, rv, hvs, _, hvcell, hrv⟩ := mat_cell (HV.out.below hb (Nat.le_refl _)) hlt
          simp only [Value.slice.injEq] at hvs
          obtain ⟨rfl, _, rfl⟩ := hvs
          have HLC : Hid (Calls Try.prog 16 #[rv, .int .i64 m.length, .int .i64 0, .int .i64 10000] wr fun e w' => e = .returned (.int .i64 (rowN m.length (m.getD k []))) ∧ Below wr.heap.size wr w') :=
            within_any _ m.length 0 10000 (m.getD k []) rv wr hrv
          obtain ⟨uo, uc, hue, _, _⟩ := sl_open hrv
          subst hue
          have HH : Hid (rowN m.length (m.getD k []) ≠ 0 → evE m = rowN m.length (m.getD k [])) := fun h => by
            have e := rowsN_hit hlt HZ.out h
            unfold evE
            rw [HC.out, e, if_pos h]
          have HN : Hid (rowN m.length (m.getD k []) = 0 → ∀ i, i < k + 1 → rowN m.length (m.getD i []) = 0) := fun h i hi => by
            by_cases e : i = k
            · rw [e]; exact h
            · exact HZ.out i (by omega)
          clear hrv hb
          generalize rowN m.length (m.getD k []) = q at *
          generalize (m.getD k []).length = lr at *
          by_cases hq : q = 0
          · subst hq
            have HN2 : Hid (∀ i, i < k + 1 → rowN m.length (m.getD i []) = 0) := HN.out rfl
            clear HN HH
            go_wp2_with fail
            refine HLC.out.mono ?_
            rintro e w' ⟨rfl, hb⟩
            have HB2 : Hid (Below w.heap.size w w') := HB.out.trans (hb.mono HB.out.size)
            clear hb
            go_wp2
            go_roundw
            case rel => exact ⟨k + 1, by omega, by go_num, HB2.out, HN2.out⟩
            case measure => simp [intOf]; omega
          · have hq' : (q != 0) = true := by simpa using hq
            have HQ : Hid (q ≠ 0) := hq
            clear hq
            go_wp2_with fail
            refine HLC.out.mono ?_
            rintro e w' ⟨rfl, hb⟩
            have HB2 : Hid (Below w.heap.size w w') := HB.out.trans (hb.mono HB.out.size)
            clear hb
            go_wp2
            go_ret
            exact ⟨by rw [HH.out HQ.out]; rfl, HB2.out⟩
        · have hc0 : cntE m = 0 := by rw [HC.out]; exact rowsN_all fun i hi => HZ.out i (by omega)
          have HIE : Hid (Calls Try.prog 17 #[.slice ao m.length cap] wr fun e w' => e = .returned (.bool (evenB m)) ∧ Below wr.heap.size wr w') := isEven_any m _ wr (sq0_ok hc0) ((HV.out.below hb (Nat.le_refl _)).more hb.size)
          have HEE : Hid (evE m = if evenB m then 0 else 3) := by
            show _ = _
            unfold evE; rw [if_neg (by omega)]
          clear hb hc0
          generalize evenB m = R at *
          go_wp2_with fail
          refine HIE.out.mono ?_
          rintro e w' ⟨rfl, hb⟩
          have HB2 : Hid (Below w.heap.size w w') := HB.out.trans (hb.mono HB.out.size)
          clear hb
          cases R
          all_goals
            go_wp2
            go_ret
            exact ⟨by rw [HEE.out]; rfl, HB2.out⟩

end Go.Proofs.Ytmffbaclgbmnbaa
