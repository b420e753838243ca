/- TopMoebius: the law's walk. -/
import Derived.Test.YtmmdhmoaddkbpaaPo8
namespace Go.Proofs.Ytmmdhmoaddkbpaa
open Go.RowKit
attribute [local go_sem ↓] Go.wp_at_zero Go.wp_at_succ

theorem bitq_tab : ∀ x : Nat, x < 64 → ∀ k : Nat, k < 6 → ((x : Int) / 2 ^ k).tmod 2 = if x.testBit k then 1 else 0 := by decide +kernel

/-- What the law goes by. -/
structure LawM (n : Nat) (f : Nat → Nat) (M : Nat → Nat → Int) (A B : Nat → Nat → Nat → Int) : Prop where
  b64 : ∀ i, i < n → f i < 64
  self : ∀ i, i < n → M i i = 1
  nul : ∀ i k, i < n → k < n → i ≠ k → (f i).testBit k = false → M i k = 0
  Mb : ∀ i k, -46656 ≤ M i k ∧ M i k ≤ 46656
  A0 : ∀ i k, A i k 0 = 0
  A1 : ∀ i k J, A i k (J + 1) = A i k J + if btw f i k J then M i J else 0
  Ab : ∀ i k J, J ≤ n → -1000000 ≤ A i k J ∧ A i k J ≤ 1000000
  Ae : ∀ i k, i < n → k < n → (f i).testBit k = true → A i k n = 0
  B0 : ∀ i k, B i k 0 = 0
  B1 : ∀ i k J, B i k (J + 1) = B i k J + if btw f i k J then M J k else 0
  Bb : ∀ i k J, J ≤ n → -1000000 ≤ B i k J ∧ B i k J ≤ 1000000
  Be : ∀ i k, i < n → k < n → (f i).testBit k = true → B i k n = 0

theorem lawM_of {n : Nat} {f : Nat → Nat} (h : PoO n f) (hn : n ≤ 6) : LawM n f (moF n f) (fun i k J => sN J fun j => if btw f i k j then moF n f i j else 0) (fun i k J => sN J fun j => if btw f i k j then moF n f j k else 0) :=
  ⟨fun i hi => Nat.lt_of_lt_of_le (h.lt i hi) (Nat.pow_le_pow_right (by omega) hn : 2 ^ n ≤ 2 ^ 6), fun i hi => moF_self h hi, fun i k _ hk hne hb => moF_not h hk hne hb, fun i k => moF_bd hn i k, fun _ _ => rfl, fun _ _ _ => rfl,
    fun i k J hJ => btw_bd hn (fun j => btw f i k j) (fun _ => i) (fun j => j) J hJ, fun i k hi hk hb => btw_a h hi hk hb, fun _ _ => rfl, fun _ _ _ => rfl,
    fun i k J hJ => btw_bd hn (fun j => btw f i k j) (fun j => j) (fun _ => k) J hJ, fun i k hi hk hb => btw_b h hi hk hb⟩

set_option maxRecDepth 100000 in
set_option maxHeartbeats 6400000 in
theorem topMoebius_any (raw : List Int) (n0 m0 : Int) (v : Value) (w : World) (hv : Sl w.heap.size 3 w v (ints raw)) (hr : ∀ z ∈ raw, In64 z) (hn0 : In64 n0) (hm0 : In64 m0) :
    Calls Try.prog 3 #[v, .int .i64 n0, .int .i64 m0] w fun e w' => e = .returned (.bool true) ∧ Below w.heap.size w w' := by
  by_cases hlen : 256 < raw.length
  · obtain ⟨ao, cap, hvv, hlc, hcm⟩ := sl_open hv
    subst hvv
    have hl2 : (256 : Int) < (raw.length : Int) := by omega
    clear hv hr
    go_enter Try.func3, Try.ntmps3
    go_wp2
    go_ret
    exact ⟨rfl, Below.refl _ _⟩
  · obtain ⟨n, hn1, hn6, HPN⟩ : ∃ n : Nat, n < 6 ∧ 0 ≤ n ∧ ∀ W, Calls Try.prog 4 #[.int .i64 n0, .int .i64 6] W fun e w' => e = .returned (.int .i64 (n : Int)) ∧ w' = W := by
      obtain ⟨k1, k2⟩ := pickF_bd (c := n0) (n := 6) (by decide)
      refine ⟨(pickF n0 6).toNat, by omega, by omega, fun W => ?_⟩
      rw [Int.toNat_of_nonneg k1]
      exact pick_val n0 6 W (by decide) (by decide) hn0
    obtain ⟨many, hm8, HPM⟩ : ∃ m : Nat, m ≤ 8 ∧ ∀ W, Calls Try.prog 4 #[.int .i64 m0, .int .i64 9] W fun e w' => e = .returned (.int .i64 (m : Int)) ∧ w' = W := by
      obtain ⟨k1, k2⟩ := pickF_bd (c := m0) (n := 9) (by decide)
      refine ⟨(pickF m0 9).toNat, by omega, fun W => ?_⟩
      rw [Int.toNat_of_nonneg k1]
      exact pick_val m0 9 W (by decide) (by decide) hm0
    have HPF := posetFrom_any (n + 1) many raw v w hv hr (by omega) (by omega) (by omega) hm8
    obtain ⟨ao, cap, hvv, hlc, hcm⟩ := sl_open hv
    subst hvv
    have hl2 : ¬ (256 : Int) < (raw.length : Int) := by omega
    clear hv hr hn0 hm0
    obtain ⟨n1, hnn⟩ : ∃ n1, n1 = n + 1 := ⟨_, rfl⟩
    have e1 : 1 + (n : Int) = (n1 : Int) := by omega
    rw [← hnn] at HPF
    have hb1 : 1 ≤ n1 := by omega
    have hb6 : n1 ≤ 6 := by omega
    clear hnn hn6
    go_enter Try.func3, Try.ntmps3
    go_wp2_with fail
    refine (HPN _).mono ?_
    rintro e w1 ⟨rfl, hw⟩
    have hw2 := hw.symm
    clear hw
    subst hw2
    go_wp2_with fail
    refine (HPM _).mono ?_
    rintro e w1 ⟨rfl, hw⟩
    have hw2 := hw.symm
    clear hw
    subst hw2
    go_wp2_with fail
    refine HPF.mono ?_
    rintro e w2 ⟨u, es, rfl, hel, hes, hprs, hb2⟩
    clear HPN HPM HPF
    have hpr0 := hprs
    obtain ⟨po, pc, hu, -⟩ := hpr0
    rw [npL_len] at hu
    subst hu
    have hG : GdO n1 es := ⟨hb1, hb6, by omega, fun e he => ⟨(hes e he).1, Nat.lt_trans (hes e he).2 (hes e he).1⟩, fun i _ => upF_down (fun e he => (hes e he).2) i⟩
    obtain ⟨PB, hPB⟩ : ∃ PB, PB = w2.heap.size := ⟨_, rfl⟩
    obtain ⟨W3, hW3⟩ : ∃ W3, W3 = w2.alloc (.cells #[.int .i64 (n1 : Int), .slice po es.length pc] 26) := ⟨_, rfl⟩
    have HB3 : Below w2.heap.size w2 W3 := by rw [hW3]; exact (Below.refl _ _).alloc (Nat.le_refl _) _
    have d0 : W3.cell? ⟨PB, 0, none⟩ = some (.int .i64 (n1 : Int)) := by rw [hW3, hPB]; simp
    have d1 : W3.cell? ⟨PB, 1, none⟩ = some (.slice po es.length pc) := by rw [hW3, hPB]; simp
    have hprs3 : Prs W3 (.slice po es.length pc) (npL es) := hprs.below HB3 (Nat.le_refl _)
    have HMO := moebiusAll_any n1 es _ W3 hprs3 hG
    have HAB : Hid (∀ W, Below W3.heap.size W3 W → (Calls Try.prog 7 #[.agg #[.int .i64 (n1 : Int), .slice po es.length pc]] W fun e w' => ∃ g, e = .returned (.tuple #[.slice (some ⟨g, 0, none⟩) n1 n1, .int .i64 0]) ∧ NuR w' g n1 (fun i => (upF n1 es i : Int)) ∧ Below W.heap.size W w') ∧ W.cell? ⟨PB, 0, none⟩ = some (.int .i64 (n1 : Int)) ∧ W.cell? ⟨PB, 1, none⟩ = some (.slice po es.length pc)) := fun W h => ⟨(above_any n1 es _ W (hprs3.below h (Nat.le_refl _)) hG).mono (by
        rintro e w' ⟨g, h1, h2, h3, _⟩
        exact ⟨g, h1, h2, h3⟩), (h.cell (lt_of_cell d0)).trans d0, (h.cell (lt_of_cell d1)).trans d1⟩
    have HLM : Hid (LawM n1 (upF n1 es) (moF n1 (upF n1 es)) (fun i k J => sN J fun j => if btw (upF n1 es) i k j then moF n1 (upF n1 es) i j else 0) (fun i k J => sN J fun j => if btw (upF n1 es) i k j then moF n1 (upF n1 es) j k else 0)) := lawM_of hG.ord hb6
    have HBW : Hid (Below w.heap.size w W3) := hb2.trans (HB3.mono hb2.size)
    clear hG hes hprs hprs3 hb2 HB3 d0 d1 hel
    generalize moF n1 (upF n1 es) = M at *
    generalize (fun i k J => sN J fun j => if btw (upF n1 es) i k j then M i j else 0) = A at *
    generalize (fun i k J => sN J fun j => if btw (upF n1 es) i k j then M j k else 0) = B at *
    generalize upF n1 es = f at *
    generalize es.length = el at *
    go_wp2_with fail
    try rw [← hPB]
    try rw [← hW3]
    refine HMO.mono ?_
    rintro e w4 ⟨G, rfl, hmr, hb4⟩
    obtain ⟨HA4, c0, c1⟩ := HAB.out w4 hb4
    have HMR : Hid (MoR w4 G n1 M) := hmr
    have HBX : Hid (Below w.heap.size w w4) := HBW.out.trans (hb4.mono HBW.out.size)
    clear HMO HAB hmr hb4 HBW hW3 hPB
    go_wp2_with fail
    refine HA4.mono ?_
    rintro e w5 ⟨U, rfl, hnu, hb5⟩
    have HM : Hid (MoR w5 G n1 M) := HMR.out.below hb5 (Nat.le_refl _)
    have HB : Hid (Below w.heap.size w w5) := HBX.out.trans (hb5.mono HBX.out.size)
    have HU : Hid (NuR w5 U n1 (fun i => (f i : Int))) := hnu
    clear HA4 c0 c1 HMR HBX hnu hb5
    have nn : ((n1 : Int) != (n1 : Int)) = false := by simp
    go_wp2
    clear nn
    go_loop [12] (fun iv => ∃ i : Nat, i ≤ n1 ∧ iv = .int .i64 (i : Int)) (fun iv => n1 - (intOf iv).toNat)
    case atStart => exact ⟨0, Nat.zero_le _, rfl⟩
    case round =>
      obtain ⟨i, hi, rfl⟩ := hrel
      by_cases hlt : i < n1
      · obtain ⟨b, c, c1, c2⟩ := HM.out i hlt
        have c3 := c2 i hlt
        rw [HLM.out.self i hlt] at c3
        have iI : (i : Int) < (n1 : Int) := by omega
        have iI0 : (0 : Int) ≤ (i : Int) := by omega
        clear c2
        go_wp2
        go_round
        case rel => exact ⟨i + 1, by omega, by go_num⟩
        case measure => simp [intOf]; omega
      · have hie : n1 = i := by omega
        subst hie
        clear hlt hi
        go_wp2
        go_loop [13] (fun iv => ∃ i : Nat, i ≤ n1 ∧ iv = .int .i64 (i : Int)) (fun iv => n1 - (intOf iv).toNat)
        case atStart => exact ⟨0, Nat.zero_le _, rfl⟩
        case round =>
          obtain ⟨i, hi, rfl⟩ := hrel
          by_cases hlt : i < n1
          · have iI : (i : Int) < (n1 : Int) := by omega
            have iI0 : (0 : Int) ≤ (i : Int) := by omega
            go_wp2
            go_loop [14] (fun kv => ∃ k : Nat, k ≤ n1 ∧ kv = .int .i64 (k : Int)) (fun kv => n1 - (intOf kv).toNat)
            case atStart => exact ⟨0, Nat.zero_le _, rfl⟩
            case round =>
              obtain ⟨k, hk, rfl⟩ := hrel
              by_cases hlk : k < n1
              · have kI : (k : Int) < (n1 : Int) := by omega
                have kI0 : (0 : Int) ≤ (k : Int) := by omega
                have cu : w5.cell? ⟨U, i, none⟩ = some (.int .i64 ((f i : Nat) : Int)) := HU.out.cell hlt
                have hfi := HLM.out.b64 i hlt
                have hq := bitq_tab (f i) hfi k (by omega)
                obtain ⟨bi, ci, m1, m2⟩ := HM.out i hlt
                cases hb : (f i).testBit k
                · rw [hb] at hq
                  have m3 := m2 k hlk
                  by_cases hik : i = k
                  · subst hik
                    have t1 : ((i : Int) != (i : Int)) = false := by simp
                    clear m2 hb
                    generalize f i = fi at *
                    simp only [Bool.false_eq_true, if_false] at hq
                    go_wp2
                    go_round
                    case rel => exact ⟨i + 1, by omega, by go_num⟩
                    case measure => simp [intOf]; omega
                  · have t1 : ((i : Int) != (k : Int)) = true := by rw [bne_iff_ne]; omega
                    rw [HLM.out.nul i k hlt hlk hik hb] at m3
                    clear m2 hb
                    generalize f i = fi at *
                    simp only [Bool.false_eq_true, if_false] at hq
                    go_wp2
                    go_round
                    case rel => exact ⟨k + 1, by omega, by go_num⟩
                    case measure => simp [intOf]; omega
                · rw [hb] at hq
                  simp only [if_true] at hq
                  have HEA := HLM.out.Ae i k hlt hlk hb
                  have HEB := HLM.out.Be i k hlt hlk hb
                  have HA0 := HLM.out.A0 i k
                  have HB0 := HLM.out.B0 i k
                  have HA1 : Hid (∀ J, A i k (J + 1) = A i k J + if btw f i k J then M i J else 0) := HLM.out.A1 i k
                  have HB1 : Hid (∀ J, B i k (J + 1) = B i k J + if btw f i k J then M J k else 0) := HLM.out.B1 i k
                  have HAb : Hid (∀ J, J ≤ n1 → -1000000 ≤ A i k J ∧ A i k J ≤ 1000000) := HLM.out.Ab i k
                  have HBb : Hid (∀ J, J ≤ n1 → -1000000 ≤ B i k J ∧ B i k J ≤ 1000000) := HLM.out.Bb i k
                  have HM2 : Hid (∀ l, l < n1 → w5.cell? ⟨bi, l, none⟩ = some (.int .i64 (M i l))) := m2
                  clear m2 hb
                  generalize A i k = a at *
                  generalize B i k = b at *
                  have HEA2 : Hid (a n1 = 0) := HEA
                  have HEB2 : Hid (b n1 = 0) := HEB
                  clear HEA HEB
                  go_wp2
                  clear hq
                  go_loop [15, 16, 17] (fun av bv jv => ∃ J : Nat, J ≤ n1 ∧ jv = .int .i64 (J : Int) ∧ av = .int .i64 (a J) ∧ bv = .int .i64 (b J)) (fun _ _ jv => n1 - (intOf jv).toNat)
                  case atStart => exact ⟨0, Nat.zero_le _, rfl, by rw [HA0], by rw [HB0]⟩
                  case round =>
                    obtain ⟨J, hJ, rfl, rfl, rfl⟩ := hrel
                    clear HA0 HB0
                    by_cases hlj : J < n1
                    · have jI : (J : Int) < (n1 : Int) := by omega
                      have jI0 : (0 : Int) ≤ (J : Int) := by omega
                      obtain ⟨x1, x2⟩ := HAb.out J hJ
                      obtain ⟨y1, y2⟩ := HBb.out J hJ
                      have cj : w5.cell? ⟨U, J, none⟩ = some (.int .i64 ((f J : Nat) : Int)) := HU.out.cell hlj
                      have hfj := HLM.out.b64 J hlj
                      have q1 := bitq_tab (f i) hfi J (by omega)
                      have q2 := bitq_tab (f J) hfj k (by omega)
                      have m3 := HM2.out J hlj
                      obtain ⟨bj, cjj, n2, n3⟩ := HM.out J hlj
                      have n4 := n3 k hlk
                      obtain ⟨z1, z2⟩ := HLM.out.Mb i J
                      obtain ⟨z3, z4⟩ := HLM.out.Mb J k
                      have e1 : btw f i k J = ((J == i || (f i).testBit J) && (J == k || (f J).testBit k)) := rfl
                      have HA2 := HA1.out J
                      have HB2 := HB1.out J
                      rw [e1] at HA2 HB2
                      have t1 : ((J : Int) == (i : Int)) = (J == i) := by rw [Bool.eq_iff_iff, beq_iff_eq, beq_iff_eq]; omega
                      have t2 : ((J : Int) == (k : Int)) = (J == k) := by rw [Bool.eq_iff_iff, beq_iff_eq, beq_iff_eq]; omega
                      clear n3 e1
                      generalize (f i).testBit J = p2 at *
                      generalize (f J).testBit k = p4 at *
                      generalize (J == i) = p1 at *
                      generalize (J == k) = p3 at *
                      generalize f i = fi at *
                      generalize f J = fj at *
                      generalize M i J = mi at *
                      generalize M J k = mj at *
                      cases p1
                      · cases p2
                        · simp only [Bool.false_eq_true, if_false] at q1
                          have HA3 : Hid (a (J + 1) = a J) := by
                            show _ = _
                            simpa using HA2
                          have HB3 : Hid (b (J + 1) = b J) := by
                            show _ = _
                            simpa using HB2
                          clear HA2 HB2
                          go_wp2
                          go_round
                          case rel => exact ⟨J + 1, by omega, by go_num, by rw [HA3.out], by rw [HB3.out]⟩
                          case measure => simp [intOf]; omega
                        · simp only [if_true] at q1
                          cases p3
                          · cases p4
                            · simp only [Bool.false_eq_true, if_false] at q2
                              have HA3 : Hid (a (J + 1) = a J) := by
                                show _ = _
                                simpa using HA2
                              have HB3 : Hid (b (J + 1) = b J) := by
                                show _ = _
                                simpa using HB2
                              clear HA2 HB2
                              go_wp2
                              go_round
                              case rel => exact ⟨J + 1, by omega, by go_num, by rw [HA3.out], by rw [HB3.out]⟩
                              case measure => simp [intOf]; omega
                            · simp only [if_true] at q2
                              have HA3 : Hid (a (J + 1) = a J + mi) := by
                                show _ = _
                                simpa using HA2
                              have HB3 : Hid (b (J + 1) = b J + mj) := by
                                show _ = _
                                simpa using HB2
                              clear HA2 HB2
                              go_wp2
                              go_round
                              case rel => exact ⟨J + 1, by omega, by go_num, by rw [HA3.out], by rw [HB3.out]⟩
                              case measure => simp [intOf]; omega
                          · have HA3 : Hid (a (J + 1) = a J + mi) := by
                              show _ = _
                              simpa using HA2
                            have HB3 : Hid (b (J + 1) = b J + mj) := by
                              show _ = _
                              simpa using HB2
                            clear HA2 HB2
                            go_wp2
                            go_round
                            case rel => exact ⟨J + 1, by omega, by go_num, by rw [HA3.out], by rw [HB3.out]⟩
                            case measure => simp [intOf]; omega
                      · cases p3
                        · cases p4
                          · simp only [Bool.false_eq_true, if_false] at q2
                            have HA3 : Hid (a (J + 1) = a J) := by
                              show _ = _
                              simpa using HA2
                            have HB3 : Hid (b (J + 1) = b J) := by
                              show _ = _
                              simpa using HB2
                            clear HA2 HB2
                            go_wp2
                            go_round
                            case rel => exact ⟨J + 1, by omega, by go_num, by rw [HA3.out], by rw [HB3.out]⟩
                            case measure => simp [intOf]; omega
                          · simp only [if_true] at q2
                            have HA3 : Hid (a (J + 1) = a J + mi) := by
                              show _ = _
                              simpa using HA2
                            have HB3 : Hid (b (J + 1) = b J + mj) := by
                              show _ = _
                              simpa using HB2
                            clear HA2 HB2
                            go_wp2
                            go_round
                            case rel => exact ⟨J + 1, by omega, by go_num, by rw [HA3.out], by rw [HB3.out]⟩
                            case measure => simp [intOf]; omega
                        · have HA3 : Hid (a (J + 1) = a J + mi) := by
                            show _ = _
                            simpa using HA2
                          have HB3 : Hid (b (J + 1) = b J + mj) := by
                            show _ = _
                            simpa using HB2
                          clear HA2 HB2
                          go_wp2
                          go_round
                          case rel => exact ⟨J + 1, by omega, by go_num, by rw [HA3.out], by rw [HB3.out]⟩
                          case measure => simp [intOf]; omega
                    · have hje : n1 = J := by omega
                      subst hje
                      have e1 := HEA2.out
                      have e2 := HEB2.out
                      clear hlj hJ
                      go_wp2
                      go_round
                      case rel => exact ⟨k + 1, by omega, by go_num⟩
                      case measure => simp [intOf]; omega
              · have hke : n1 = k := by omega
                subst hke
                clear hlk hk
                go_wp2
                go_round
                case rel => exact ⟨i + 1, by omega, by go_num⟩
                case measure => simp [intOf]; omega
          · have hie : n1 = i := by omega
            subst hie
            clear hlt hi
            go_wp2
            go_ret
            exact ⟨rfl, HB.out⟩

end Go.Proofs.Ytmmdhmoaddkbpaa
