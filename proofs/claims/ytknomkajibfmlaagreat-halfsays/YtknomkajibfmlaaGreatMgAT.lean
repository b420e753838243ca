import Derived.Test.YtknomkajibfmlaaGreatWo4
import Derived.Test.YtknomkajibfmlaaGreatMgAR
import Derived.Deep.QuietTactic
import Derived.BigQuiet
/- half.Without. -/
namespace Go.Proofs.YtknomkajibfmlaaGreat
open Go.RowKit

set_option maxRecDepth 100000 in
set_option maxHeartbeats 1600000 in
theorem halfWithout_ok (d k : Nat) (rows : List (List Int)) (v : Value) (w : World) (hv : Mat w.heap.size 38 3 w v rows) (hc : CutF d rows) (hk : k < d) :
    Calls Tryz.prog 10 #[.agg #[.int .i64 d, v], .int .i64 k] w fun e w' => ∃ u m', e = .returned (.tuple #[u, .int .i64 0]) ∧ Fr w.heap.size 38 3 w' u m' ∧ Inor m' (woAll rows k rows.length) ∧ Below w.heap.size w w' := by
  obtain ⟨ao, cap, hvv, hlc, hcm⟩ := mat_open hv
  subst hvv
  have HV : Hid (Mat w.heap.size 38 3 w (.slice ao rows.length cap) rows) := hv
  have HC : Hid (CutF d rows) := hc
  have hk0 : (0 : Int) ≤ (k : Int) := by omega
  have hk1 : ¬ (k : Int) < 0 := by omega
  have hk2 : (k : Int) < (d : Int) := by omega
  have hk3 : ¬ (d : Int) ≤ (k : Int) := by omega
  obtain ⟨W, hW⟩ : ∃ W, W = w.alloc (.cells #[.int .i64 d, .slice ao rows.length cap] 24) := ⟨_, rfl⟩
  have hbW : Below w.heap.size w W := by rw [hW]; exact alloc_keep _ _
  have hkW : W.heap[w.heap.size]? = some (.cells #[.int .i64 d, .slice ao rows.length cap] 24 (0, 0)) := by rw [hW]; exact alloc_new _ _
  have hsW : W.heap.size = w.heap.size + 1 := by rw [hW]; simp
  have H1 : Hid (Calls Tryz.prog 8 #[.agg #[.int .i64 d, .slice ao rows.length cap]] W fun e w' => e = .returned (.int .i64 0) ∧ Below W.heap.size W w') := halfCheckF_ok d rows _ W ((HV.out.below hbW (Nat.le_refl _)).more hbW.size) HC.out
  have HW : Hid (W = w.alloc (.cells #[.int .i64 d, .slice ao rows.length cap] 24)) := hW
  have HBW : Hid (Below w.heap.size w W) := hbW
  have HKW : Hid (W.heap[w.heap.size]? = some (.cells #[.int .i64 d, .slice ao rows.length cap] 24 (0, 0))) := hkW
  have HSW : Hid (W.heap.size = w.heap.size + 1) := hsW
  clear hv hc hW hbW hkW hsW
  go_enter Tryz.func10, Tryz.ntmps10
  go_wp2_with fail
  rw [← HW.out]
  refine H1.out.mono ?_
  rintro e w1 ⟨rfl, hb1⟩
  have hb2 : Below w.heap.size w w1 := HBW.out.trans (hb1.mono HBW.out.size)
  have H2 : Hid (Calls Tryz.prog 25 #[.slice ao rows.length cap, .int .i64 k] w1 fun e w' => ∃ u m', e = .returned u ∧ Fr w.heap.size 38 3 w' u m' ∧ Inor m' (woAll rows k rows.length) ∧ Below w.heap.size w w') := by
    refine (without_any d k rows _ w1 ((HV.out.below hb2 (Nat.le_refl _)).more hb2.size) HC.out hk).mono ?_
    rintro e w' ⟨u, m', rfl, g1, g2, g3⟩
    exact ⟨u, m', rfl, g1.mono hb2.size, g2, hb2.trans (g3.mono hb2.size)⟩
  have hk1 : w1.heap[w.heap.size]? = some (.cells #[.int .i64 d, .slice ao rows.length cap] 24 (0, 0)) := (hb1.block _ (by have := HSW.out; omega)).trans HKW.out
  have k0 : w1.cell? ⟨w.heap.size, 0, none⟩ = some (.int .i64 d) := by simp [World.cell?, hk1]
  have k1 : w1.cell? ⟨w.heap.size, 1, none⟩ = some (.slice ao rows.length cap) := by simp [World.cell?, hk1]
  clear hb1 hb2 hk1
  go_wp2_with fail
  refine H2.out.mono ?_
  rintro e w2 ⟨u, m', rfl, h1, h2, h3⟩
  have HH : Hid (Fr w.heap.size 38 3 w2 u m' ∧ Inor m' (woAll rows k rows.length) ∧ Below w.heap.size w w2) := ⟨h1, h2, h3⟩
  clear h1 h2 h3
  go_wp2
  go_ret2
  exact ⟨u, m', rfl, HH.out⟩

end Go.Proofs.YtknomkajibfmlaaGreat

/- The document's answer: is a list ahead of another one? -/
namespace Go.Proofs.YtknomkajibfmlaaGreat
open Go.RowKit

set_option maxRecDepth 100000 in
set_option maxHeartbeats 800000 in
theorem below_any (B : Nat) (x y : List Int) (u v : Value) (w : World) (hu : Sl B 3 w u (ints x)) (hv : Sl B 3 w v (ints y)) :
    Calls Tryz.prog 38 #[u, v] w fun e w' => e = .returned (.bool (decide (cmpL x y < 0))) ∧ ∃ n, w' = w.drewN n := by
  obtain ⟨ao, cap, hvv, hlc, hcm⟩ := sl_open hu
  obtain ⟨bo, cbp, huu, hlb, hcb⟩ := sl_open hv
  subst hvv huu
  have HU : Hid (Sl B 3 w (.slice ao x.length cap) (ints x)) := hu
  have HV : Hid (Sl B 3 w (.slice bo y.length cbp) (ints y)) := hv
  clear hu hv
  go_enter Tryz.func38, Tryz.ntmps38
  go_wp2
  go_loopw [5] (fun i wr => ∃ k : Nat, k ≤ x.length ∧ k ≤ y.length ∧ i = .int .i64 k ∧ cmpL x y = cmpL (x.drop k) (y.drop k) ∧ ∃ n, wr = w.drewN n) (fun i _ => x.length - (intOf i).toNat)
  case atStart => exact ⟨0, Nat.zero_le _, Nat.zero_le _, rfl, rfl, 0, rfl⟩
  case round =>
    obtain ⟨k, hk, hk2, rfl, hcm2, n, rfl⟩ := hrel
    have HC : Hid (cmpL x y = cmpL (x.drop k) (y.drop k)) := hcm2
    clear hcm2
    by_cases hlt : k < x.length
    · have hltI : (k : Int) < (x.length : Int) := by omega
      obtain ⟨b, o, cp, hs, hc1, hcc⟩ := sl_cell HU.out hlt
      simp only [Value.slice.injEq] at hs
      obtain ⟨rfl, _, rfl⟩ := hs
      by_cases hlt2 : k < y.length
      · have hltJ : (k : Int) < (y.length : Int) := by omega
        obtain ⟨b2, o2, cp2, hs2, hc2, hcc2⟩ := sl_cell HV.out hlt2
        simp only [Value.slice.injEq] at hs2
        obtain ⟨rfl, _, rfl⟩ := hs2
        have HA : Hid (cmpL (x.drop k) (y.drop k) = if cmpI (x.getD k 0) (y.getD k 0) = 0 then cmpL (x.drop (k + 1)) (y.drop (k + 1)) else cmpI (x.getD k 0) (y.getD k 0)) := cmpL_at hlt hlt2
        have hk0 : (0 : Int) ≤ (k : Int) := by omega
        generalize x.getD k 0 = a at *
        generalize y.getD k 0 = c at *
        by_cases hac : a = c
        · have HR : Hid (cmpL x y = cmpL (x.drop (k + 1)) (y.drop (k + 1))) := by
            show _ = _
            rw [HC.out, HA.out, if_pos (by rw [hac]; simp [cmpI])]
          have hacb : (a != c) = false := by simp [hac]
          clear hac
          go_wp2
          go_quiet (fail)
          go_wp2
          go_roundw
          case rel => exact ⟨k + 1, by omega, by omega, by go_num, HR.out, _, rfl⟩
          case measure => simp [intOf]; omega
        · have HR : Hid (cmpL x y = cmpI a c) := by
            show _ = _
            rw [HC.out, HA.out, if_neg (by unfold cmpI; split <;> (try split) <;> omega)]
          have HS : Hid (decide (cmpI a c < 0) = decide (a < c)) := by
            show _ = _
            unfold cmpI
            by_cases h : a < c
            · simp [h]
            · by_cases h' : c < a <;> simp [h, h']
          have hacb : (a != c) = true := by simp [hac]
          clear hac
          go_wp2
          go_quiet (fail)
          go_wp2
          go_quiet (fail)
          go_wp2
          go_ret
          exact ⟨ret_bool (by rw [HR.out, HS.out]), _, by rw [World.drewN_drewN, World.drewN_drewN]⟩
      · have hltJ : decide ((k : Int) < (y.length : Int)) = false := by simp; omega
        have hke : k = y.length := by omega
        have HR : Hid (cmpL x y = 1) := by
          show _ = _
          rw [HC.out, hke, List.drop_length, List.drop_eq_getElem_cons (by omega)]; rfl
        have hxy : decide ((x.length : Int) < (y.length : Int)) = false := by simp; omega
        clear hke
        go_wp2
        go_ret
        exact ⟨ret_bool (by rw [HR.out]; first | rfl | simpa using hxy), _, rfl⟩
    · have hltI : decide ((k : Int) < (x.length : Int)) = false := by simp; omega
      have hke : k = x.length := by omega
      have HR : Hid (decide (cmpL x y < 0) = decide (x.length < y.length)) := by
        show _ = _
        rw [HC.out, hke, List.drop_length]
        by_cases hxy : x.length < y.length
        · rw [List.drop_eq_getElem_cons hxy]
          simp [cmpL, hxy]
        · rw [List.drop_eq_nil_of_le (by omega)]
          simp [cmpL]; omega
      clear hke
      go_wp2
      go_ret
      exact ⟨ret_bool HR.out.symm, _, rfl⟩

end Go.Proofs.YtknomkajibfmlaaGreat
