/- The document: squares that are even. -/
import Derived.Test.YtmgjnhdicnpdlaaNp1
import Derived.Test.YtmgjnhdicnpdlaaTw1
import Derived.Deep.QuietTactic
import Derived.BigQuiet
namespace Go.Proofs.Ytmgjnhdicnpdlaa
open Go.RowKit
attribute [local go_sem ↓] Go.wp_at_zero Go.wp_at_succ

theorem anyW_snoc {p : Int → Bool} {l : List Int} {k : Nat} (h : k < l.length) (h0 : (l.take k).any p = false) : (l.take (k + 1)).any p = p (l.getD k 0) := by
  rw [List.take_succ_eq_append_getElem h, List.any_append, h0]; simp [h]

theorem anyW_get {p : Int → Bool} {l : List Int} {k : Nat} (h : k < l.length) (h0 : p (l.getD k 0) = true) : l.any p = true :=
  List.any_eq_true.2 ⟨l.getD k 0, by simp [h], h0⟩

theorem rsm_sum {m : List (List Int)} (h : Sq0 m) {i : Nat} (hi : i < m.length) : (m.getD i []).sum = rsm m i := by
  rw [row_sum, h.len i hi]; rfl

set_option maxRecDepth 100000 in
set_option maxHeartbeats 1600000 in
theorem evenMay_any (m : List (List Int)) (v : Value) (w : World) (hv : Mat w.heap.size 26 3 w v m) :
    Calls Try.prog 6 #[v] w fun e w' => e = .returned (.int .i64 (evE m)) ∧ ∃ n, w' = w.drewN n := by
  obtain ⟨ao, cap, hvv, hlc, hcm⟩ := mat_open hv
  subst hvv
  have HV : Hid (Mat w.heap.size 26 3 w (.slice ao m.length cap) m) := hv
  clear hv
  by_cases h1 : m.length < 1
  · have b1 : decide ((m.length : Int) < 1) = true := decide_eq_true (by omega)
    have HE : Hid (evE m = 2) := by
      have e : cntE m = 2 := if_pos (by omega)
      show _ = _
      unfold evE; rw [e]; rfl
    go_enter Try.func6, Try.ntmps6
    go_wp2
    go_ret
    exact ⟨by rw [HE.out]; rfl, 0, rfl⟩
  have b1 : decide ((m.length : Int) < 1) = false := decide_eq_false (by omega)
  by_cases h2 : 6 < m.length
  · have b2 : decide ((6 : Int) < (m.length : Int)) = true := decide_eq_true (by omega)
    have HE : Hid (evE m = 2) := by
      have e : cntE m = 2 := if_pos (by omega)
      show _ = _
      unfold evE; rw [e]; rfl
    go_enter Try.func6, Try.ntmps6
    go_wp2
    go_ret
    exact ⟨by rw [HE.out]; rfl, 0, rfl⟩
  have b2 : decide ((6 : Int) < (m.length : Int)) = false := decide_eq_false (by omega)
  have HC : Hid (cntE m = rowsN m.length m) := if_neg (by omega)
  have h6 : m.length ≤ 6 := by omega
  go_enter Try.func6, Try.ntmps6
  go_wp2
  go_loopw [3, 4] (fun i _ wr => ∃ k : Nat, k ≤ m.length ∧ i = .int .i64 k ∧ wr = w ∧ ∀ i, i < k → rowN m.length (m.getD i []) = 0) (fun i _ _ => m.length - (intOf i).toNat)
  case atStart => exact ⟨0, Nat.zero_le _, rfl, rfl, fun i hi => by omega⟩
  case round =>
    obtain ⟨k, hk, rfl, rfl, hz⟩ := hrel
    have HZ : Hid (∀ i, i < k → rowN m.length (m.getD i []) = 0) := hz
    clear hz
    by_cases hlt : k < m.length
    · obtain ⟨vb, voo, vcp, rv, hvs, _, hvcell, hrv⟩ := mat_cell HV.out hlt
      simp only [Value.slice.injEq] at hvs
      obtain ⟨rfl, -, rfl⟩ := hvs
      obtain ⟨uo, uc, hue, _, _⟩ := sl_open hrv
      subst hue
      have HRV : Hid (Sl wr.heap.size 3 wr (.slice uo (m.getD k []).length uc) (ints (m.getD k []))) := hrv
      have HH : Hid (rowN m.length (m.getD k []) ≠ 0 → evE m = rowN m.length (m.getD k [])) := fun h => by
        have e := rowsN_hit hlt HZ.out h
        unfold evE
        rw [HC.out, e, if_pos h]
      have HN : Hid (rowN m.length (m.getD k []) = 0 → ∀ i, i < k + 1 → rowN m.length (m.getD i []) = 0) := fun h i hi => by
        by_cases e : i = k
        · rw [e]; exact h
        · exact HZ.out i (by omega)
      have HD : Hid (rowN m.length (m.getD k []) = if (m.getD k []).length ≠ m.length then 3 else if (m.getD k []).any (outB 0 10000) then 4 else 0) := rfl
      clear hrv
      generalize m.getD k [] = r at *
      by_cases hrl : r.length = m.length
      · rw [if_neg (by omega)] at HD
        have b0 : ((r.length : Int) != (m.length : Int)) = false := by rw [bne_eq_false_iff_eq]; omega
        have b0' : ((m.length : Int) != (m.length : Int)) = false := by simp
        rw [hrl] at HRV hvcell
        have HRL : Hid (r.length = m.length) := hrl
        clear hrl b0
        go_wp2
        go_loopw [4] (fun i wq => ∃ j : Nat, j ≤ m.length ∧ i = .int .i64 j ∧ (r.take j).any (outB 0 10000) = false ∧ wq = wr) (fun i _ => m.length - (intOf i).toNat)
        case atStart => exact ⟨0, Nat.zero_le _, rfl, by simp, rfl⟩
        case round =>
          obtain ⟨j, hj, rfl, hno, hwq⟩ := hrel
          subst hwq
          have HNO : Hid ((r.take j).any (outB 0 10000) = false) := hno
          clear hno
          by_cases hjl : j < m.length
          · obtain ⟨b1', o1, c1, hs1, _, hcc1⟩ := sl_cell HRV.out (k := j) (by rw [HRL.out]; exact hjl)
            simp only [Value.slice.injEq] at hs1
            obtain ⟨rfl, -, rfl⟩ := hs1
            have HS1 : Hid ((r.take (j + 1)).any (outB 0 10000) = outB 0 10000 (r.getD j 0)) := anyW_snoc (by rw [HRL.out]; exact hjl) HNO.out
            have HS2 : Hid (outB 0 10000 (r.getD j 0) = true → r.any (outB 0 10000) = true) := fun h => anyW_get (by rw [HRL.out]; exact hjl) h
            generalize r.getD j 0 = x at *
            by_cases hx0 : x < 0
            · have q1 : decide (x < 0) = true := decide_eq_true hx0
              have HE : Hid (evE m = 4) := by
                have e1 : r.any (outB 0 10000) = true := HS2.out (by simp [outB, hx0])
                have e2 := HD.out
                rw [e1, if_pos rfl] at e2
                show _ = _
                rw [HH.out (by omega), e2]
              clear hx0
              go_wp2
              go_ret
              exact ⟨by rw [HE.out]; rfl, 0, rfl⟩
            · have q1 : decide (x < 0) = false := decide_eq_false hx0
              by_cases hx1 : 10000 < x
              · have q2 : decide (10000 < x) = true := decide_eq_true hx1
                have HE : Hid (evE m = 4) := by
                  have e1 : r.any (outB 0 10000) = true := HS2.out (by simp [outB, hx1])
                  have e2 := HD.out
                  rw [e1, if_pos rfl] at e2
                  show _ = _
                  rw [HH.out (by omega), e2]
                clear hx0 hx1
                go_wp2
                go_ret
                exact ⟨by rw [HE.out]; rfl, 0, rfl⟩
              · have q2 : decide (10000 < x) = false := decide_eq_false hx1
                have HN2 : Hid ((r.take (j + 1)).any (outB 0 10000) = false) := by
                  show _ = _
                  rw [HS1.out]; simp [outB]; omega
                clear hx0 hx1
                go_wp2
                go_roundw
                case rel => exact ⟨j + 1, by omega, by go_num, HN2.out, trivial⟩
                case measure => simp [intOf]; omega
          · have hje : r.take j = r := List.take_of_length_le (by have := HRL.out; omega)
            have HN2 : Hid (∀ i, i < k + 1 → rowN m.length (m.getD i []) = 0) := HN.out (by
              have e := HD.out
              rw [← hje] at e
              rw [HNO.out] at e
              rw [← hje]
              simpa using e)
            clear hje
            go_wp2
            go_roundw
            case rel => exact ⟨k + 1, by omega, by go_num, trivial, HN2.out⟩
            case measure => simp [intOf]; omega
      · rw [if_pos hrl] at HD
        have b0 : ((r.length : Int) != (m.length : Int)) = true := by rw [bne_iff_ne]; omega
        have HE : Hid (evE m = 3) := by
          show _ = _
          rw [HH.out (by rw [HD.out]; decide), HD.out]
        clear hrl
        go_wp2
        go_ret
        exact ⟨by rw [HE.out]; rfl, 0, rfl⟩
    · have hc0 : cntE m = 0 := by rw [HC.out]; exact rowsN_all fun i hi => HZ.out i (by omega)
      have HM : Hid (Sq0 m) := sq0_ok hc0
      have HEE : Hid (evE m = if evenB m then 0 else 3) := by
        show _ = _
        unfold evE; rw [if_neg (by omega)]
      have hke : k = m.length := by omega
      subst hke
      clear hc0
      go_wp2
      go_loopw [5, 6, 7] (fun i _ _ wq => ∃ k : Nat, k ≤ m.length ∧ i = .int .i64 k ∧ (∃ d, wq = wr.drewN d) ∧ ∀ i, i < k → csm m i = rsm m 0 ∧ rsm m i = rsm m 0) (fun i _ _ _ => m.length - (intOf i).toNat)
      case atStart => exact ⟨0, Nat.zero_le _, rfl, ⟨0, rfl⟩, fun i hi => by omega⟩
      case round =>
        obtain ⟨i, hi, rfl, ⟨d, hwq⟩, hev⟩ := hrel
        subst hwq
        have HEV : Hid (∀ k, k < i → csm m k = rsm m 0 ∧ rsm m k = rsm m 0) := hev
        clear hev
        by_cases hil : i < m.length
        · go_wp2
          go_loopw [6, 7] (fun s j wq => ∃ k : Nat, k ≤ m.length ∧ j = .int .i64 k ∧ s = .int .i64 (sumF (fun a => ent m a i) k) ∧ wq = wr.drewN d) (fun _ j _ => m.length - (intOf j).toNat)
          case atStart => exact ⟨0, Nat.zero_le _, rfl, rfl, rfl⟩
          case round =>
            obtain ⟨k, hk, rfl, rfl, hwq⟩ := hrel
            subst hwq
            by_cases hkl : k < m.length
            · obtain ⟨vb, voo, vcp, rv, hvs, _, hvcell, hrv⟩ := mat_cell HV.out hkl
              simp only [Value.slice.injEq] at hvs
              obtain ⟨rfl, -, rfl⟩ := hvs
              have hrl := HM.out.len k hkl
              obtain ⟨b4, o4, c4, hs4, _, hcc4⟩ := sl_cell hrv (k := i) (by omega)
              subst hs4
              rw [hrl] at hvcell
              rw [show (m.getD k []).getD i 0 = ent m k i from rfl] at hcc4
              have HS : Hid (sumF (fun a => ent m a i) (k + 1) = sumF (fun a => ent m a i) k + ent m k i) := rfl
              have b3 := sumF_bd (f := fun a => ent m a i) (lo := 0) (hi := 10000) (fun a => HM.out.bd a i) k
              have b5 := HM.out.bd k i
              clear hrv hrl
              generalize ent m k i = x at *
              generalize sumF (fun a => ent m a i) k = S at *
              have b6 : 0 ≤ S ∧ S ≤ 100000 := by omega
              clear b3
              go_wp2
              go_roundw
              case rel => exact ⟨k + 1, by omega, by go_num, by rw [HS.out], trivial⟩
              case measure => simp [intOf]; omega
            · have hke : k = m.length := by omega
              have HCS : Hid (sumF (fun a => ent m a i) k = csm m i) := by
                show _ = _
                rw [hke]; rfl
              rw [HCS.out]
              obtain ⟨vb, voo, vcp, rv, hvs, _, hvcell, hrv⟩ := mat_cell HV.out hil
              simp only [Value.slice.injEq] at hvs
              obtain ⟨rfl, -, rfl⟩ := hvs
              obtain ⟨vb', voo', vcp', r0, hvs', _, hvcell0, hr0⟩ := mat_cell HV.out (k := 0) (by omega)
              simp only [Value.slice.injEq, Option.some.injEq, Addr.mk.injEq] at hvs'
              obtain ⟨⟨rfl, rfl, -⟩, -, rfl⟩ := hvs'
              rw [Nat.add_zero] at hvcell0
              obtain ⟨W, hW⟩ : ∃ W, W = wr.drewN d := ⟨_, rfl⟩
              have hbd : ∀ a, a < m.length → ∀ z ∈ m.getD a [], z.natAbs ≤ 1000000000 := fun a ha z hz => by
                obtain ⟨j, hj, rfl⟩ := List.getElem_of_mem hz
                have := HM.out.bd a j
                have e : ent m a j = (m.getD a [])[j] := by
                  unfold ent
                  rw [List.getD_eq_getElem?_getD, List.getElem?_eq_getElem hj]; rfl
                omega
              have HS0 : Hid (∀ q, Calls Try.prog 14 #[r0] (W.drewN q) fun e w' => e = .returned (.int .i64 (rsm m 0)) ∧ ∃ n, w' = (W.drewN q).drewN n) := fun q => by
                rw [← rsm_sum HM.out (by omega : 0 < m.length)]
                exact (sumT_any _ (m.getD 0 []) r0 (W.drewN q) (by rw [hW]; exact (hr0.drewN d).drewN q) (by rw [HM.out.len 0 (by omega)]; omega) (hbd 0 (by omega)))
              have HSI : Hid (∀ q, Calls Try.prog 14 #[rv] (W.drewN q) fun e w' => e = .returned (.int .i64 (rsm m i)) ∧ ∃ n, w' = (W.drewN q).drewN n) := fun q => by
                rw [← rsm_sum HM.out hil]
                exact (sumT_any _ (m.getD i []) rv (W.drewN q) (by rw [hW]; exact (hrv.drewN d).drewN q) (by rw [HM.out.len i hil]; omega) (hbd i hil))
              obtain ⟨xo, xc, hx, -, -⟩ := sl_open hrv
              obtain ⟨yo, yc, hy, -, -⟩ := sl_open hr0
              have d0 : W.cell? ⟨vb, voo, none⟩ = some r0 := by rw [hW]; exact hvcell0
              have d1 : W.cell? ⟨vb, voo + i, none⟩ = some rv := by rw [hW]; exact hvcell
              subst hx hy
              generalize (m.getD i []).length = li at *
              generalize (m.getD 0 []).length = l0 at *
              have HNEV : Hid (¬ (csm m i = rsm m 0 ∧ rsm m i = rsm m 0) → evE m = 3) := fun h => by
                have : evenB m = false := by
                  unfold evenB
                  rw [List.all_eq_false]
                  refine ⟨i, List.mem_range.2 hil, ?_⟩
                  simp only [Bool.and_eq_true, decide_eq_true_eq]
                  exact h
                rw [HEE.out, this]; rfl
              have HNX : Hid (csm m i = rsm m 0 → rsm m i = rsm m 0 → ∀ k, k < i + 1 → csm m k = rsm m 0 ∧ rsm m k = rsm m 0) := fun h1 h2 k hk => by
                by_cases e : k = i
                · rw [e]; exact ⟨h1, h2⟩
                · exact HEV.out k (by omega)
              have HWD : Hid (W = wr.drewN d) := hW
              rw [← hW]
              have mI : (0 : Int) < (m.length : Int) := by omega
              have iI : (i : Int) < (m.length : Int) := by omega
              have iI0 : (0 : Int) ≤ (i : Int) := by omega
              clear hvcell hvcell0 hrv hr0 hW hbd hke HCS
              generalize hR0 : rsm m 0 = R0 at *
              have HR0 : Hid (rsm m 0 = R0) := hR0
              clear hR0
              generalize rsm m i = Ri at *
              generalize csm m i = Ci at *
              by_cases e1 : Ci = R0
              · have q1 : (Ci != R0) = false := by simp [e1]
                by_cases e2 : Ri = R0
                · have q2 : (Ri != R0) = false := by simp [e2]
                  have HX : Hid (∀ k, k < i + 1 → csm m k = R0 ∧ rsm m k = R0) := HNX.out e1 e2
                  clear e1 e2 HNX HNEV
                  go_wp2_with fail
                  go_big_quiet (first | (go_at_call_of 14 (Value.slice yo l0 yc); exact Calls.quiet_of (w := W) (HS0.out _)) | (go_at_call_of 14 (Value.slice xo li xc); exact Calls.quiet_of (w := W) (HSI.out _)))
                  go_wp2
                  go_roundw
                  case rel => exact ⟨i + 1, by omega, by go_num, ⟨_, by rw [HWD.out, World.drewN_drewN]⟩, by intro a ha; rw [HR0.out]; exact HX.out a ha⟩
                  case measure => simp [intOf]; omega
                · have q2 : (Ri != R0) = true := by simp [e2]
                  have HX : Hid (evE m = 3) := HNEV.out (fun h => e2 h.2)
                  clear e1 e2 HNX HNEV
                  go_wp2_with fail
                  go_big_quiet (first | (go_at_call_of 14 (Value.slice yo l0 yc); exact Calls.quiet_of (w := W) (HS0.out _)) | (go_at_call_of 14 (Value.slice xo li xc); exact Calls.quiet_of (w := W) (HSI.out _)))
                  go_wp2
                  go_ret
                  exact ⟨by rw [HX.out]; rfl, _, by rw [HWD.out, World.drewN_drewN]⟩
              · have q1 : (Ci != R0) = true := by simp [e1]
                have HX : Hid (evE m = 3) := HNEV.out (fun h => e1 h.1)
                clear e1 HNX HNEV
                go_wp2_with fail
                go_big_quiet ((go_at_call 14; exact Calls.quiet_of (w := W) (HS0.out _)))
                go_wp2
                go_ret
                exact ⟨by rw [HX.out]; rfl, _, by rw [HWD.out, World.drewN_drewN]⟩
        · have HX : Hid (evE m = 0) := by
            have : evenB m = true := by
              unfold evenB
              rw [List.all_eq_true]
              intro k hk
              have := HEV.out k (by have := List.mem_range.1 hk; omega)
              simp only [Bool.and_eq_true, decide_eq_true_eq]
              exact this
            show _ = _
            rw [HEE.out, this]; rfl
          go_wp2
          go_ret
          exact ⟨by rw [HX.out]; rfl, d, rfl⟩

end Go.Proofs.Ytmgjnhdicnpdlaa
