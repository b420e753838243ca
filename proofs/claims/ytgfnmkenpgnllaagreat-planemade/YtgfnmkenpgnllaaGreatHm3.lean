/- The document's answer: is a list ahead of another one? -/
import Derived.Test.YtgfnmkenpgnllaaGreatOrd1
import Derived.Deep.QuietTactic
import Derived.BigQuiet
namespace Go.Proofs.YtgfnmkenpgnllaaGreat
open Go.RowKit

set_option maxRecDepth 100000 in
set_option maxHeartbeats 800000 in
theorem below_any (B : Nat) (x y : List Int) (u v : Value) (w : World) (hu : Sl B 3 w u (ints x)) (hv : Sl B 3 w v (ints y)) :
    Calls Tryz.prog 48 #[u, v] w fun e w' => e = .returned (.bool (decide (cmpL x y < 0))) ∧ ∃ n, w' = w.drewN n := by
  obtain ⟨ao, cap, hvv, hlc, hcm⟩ := sl_open hu
  obtain ⟨bo, cbp, huu, hlb, hcb⟩ := sl_open hv
  subst hvv huu
  have HU : Hid (Sl B 3 w (.slice ao x.length cap) (ints x)) := hu
  have HV : Hid (Sl B 3 w (.slice bo y.length cbp) (ints y)) := hv
  clear hu hv
  go_enter Tryz.func48, Tryz.ntmps48
  go_wp2
  go_loopw [5] (fun i wr => ∃ k : Nat, k ≤ x.length ∧ k ≤ y.length ∧ i = .int .i64 k ∧ cmpL x y = cmpL (x.drop k) (y.drop k) ∧ ∃ n, wr = w.drewN n) (fun i _ => x.length - (intOf i).toNat)
  case atStart => exact ⟨0, Nat.zero_le _, Nat.zero_le _, rfl, rfl, 0, rfl⟩
  case round =>
    obtain ⟨k, hk, hk2, rfl, hcm2, n, rfl⟩ := hrel
    have HC : Hid (cmpL x y = cmpL (x.drop k) (y.drop k)) := hcm2
    clear hcm2
    by_cases hlt : k < x.length
    · have hltI : (k : Int) < (x.length : Int) := by omega
      obtain ⟨b, o, cp, hs, hc1, hcc⟩ := sl_cell HU.out hlt
      simp only [Value.slice.injEq] at hs
      obtain ⟨rfl, _, rfl⟩ := hs
      by_cases hlt2 : k < y.length
      · have hltJ : (k : Int) < (y.length : Int) := by omega
        obtain ⟨b2, o2, cp2, hs2, hc2, hcc2⟩ := sl_cell HV.out hlt2
        simp only [Value.slice.injEq] at hs2
        obtain ⟨rfl, _, rfl⟩ := hs2
        have HA : Hid (cmpL (x.drop k) (y.drop k) = if cmpI (x.getD k 0) (y.getD k 0) = 0 then cmpL (x.drop (k + 1)) (y.drop (k + 1)) else cmpI (x.getD k 0) (y.getD k 0)) := cmpL_at hlt hlt2
        have hk0 : (0 : Int) ≤ (k : Int) := by omega
        generalize x.getD k 0 = a at *
        generalize y.getD k 0 = c at *
        by_cases hac : a = c
        · have HR : Hid (cmpL x y = cmpL (x.drop (k + 1)) (y.drop (k + 1))) := by
            show _ = _
            rw [HC.out, HA.out, if_pos (by rw [hac]; simp [cmpI])]
          have hacb : (a != c) = false := by simp [hac]
          clear hac
          go_wp2
          go_quiet (fail)
          go_wp2
          go_roundw
          case rel => exact ⟨k + 1, by omega, by omega, by go_num, HR.out, _, rfl⟩
          case measure => simp [intOf]; omega
        · have HR : Hid (cmpL x y = cmpI a c) := by
            show _ = _
            rw [HC.out, HA.out, if_neg (by unfold cmpI; split <;> (try split) <;> omega)]
          have HS : Hid (decide (cmpI a c < 0) = decide (a < c)) := by
            show _ = _
            unfold cmpI
            by_cases h : a < c
            · simp [h]
            · by_cases h' : c < a <;> simp [h, h']
          have hacb : (a != c) = true := by simp [hac]
          clear hac
          go_wp2
          go_quiet (fail)
          go_wp2
          go_quiet (fail)
          go_wp2
          go_ret
          exact ⟨ret_bool (by rw [HR.out, HS.out]), _, by rw [World.drewN_drewN, World.drewN_drewN]⟩
      · have hltJ : decide ((k : Int) < (y.length : Int)) = false := by simp; omega
        have hke : k = y.length := by omega
        have HR : Hid (cmpL x y = 1) := by
          show _ = _
          rw [HC.out, hke, List.drop_length, List.drop_eq_getElem_cons (by omega)]; rfl
        have hxy : decide ((x.length : Int) < (y.length : Int)) = false := by simp; omega
        clear hke
        go_wp2
        go_ret
        exact ⟨ret_bool (by rw [HR.out]; first | rfl | simpa using hxy), _, rfl⟩
    · have hltI : decide ((k : Int) < (x.length : Int)) = false := by simp; omega
      have hke : k = x.length := by omega
      have HR : Hid (decide (cmpL x y < 0) = decide (x.length < y.length)) := by
        show _ = _
        rw [HC.out, hke, List.drop_length]
        by_cases hxy : x.length < y.length
        · rw [List.drop_eq_getElem_cons hxy]
          simp [cmpL, hxy]
        · rw [List.drop_eq_nil_of_le (by omega)]
          simp [cmpL]; omega
      clear hke
      go_wp2
      go_ret
      exact ⟨ret_bool HR.out.symm, _, rfl⟩

end Go.Proofs.YtgfnmkenpgnllaaGreat
