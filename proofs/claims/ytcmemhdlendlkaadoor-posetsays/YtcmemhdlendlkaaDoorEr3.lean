/- facetref.OrderMay of an order that may not be; Maps with a number that may not be. -/
import Derived.Test.YtcmemhdlendlkaaDoorEr1
import Derived.Test.YtcmemhdlendlkaaDoorAo1
namespace Go.Proofs.YtcmemhdlendlkaaDoor
open Go.RowKit
attribute [local go_sem ↓] Go.wp_at_zero Go.wp_at_succ

set_option maxRecDepth 100000 in
set_option maxHeartbeats 800000 in
theorem maps_rng (n : Nat) (es : List (Nat × Nat)) (k : Int) (pv : Value) (w : World) (hv : Prs w pv (npL es)) (hG : GdO n es) (hk : k < 0 ∨ 6 < k) :
    Calls Tryd.prog 23 #[.agg #[.int .i64 (n : Int), pv], .int .i64 k] w fun e w' => e = .returned (.tuple #[.int .i64 0, .int .i64 0, .int .i64 4]) ∧ Below w.heap.size w w' := by
  obtain ⟨W1, hW1⟩ : ∃ W1, W1 = w.alloc (.cells #[.int .i64 (n : Int), pv] 24) := ⟨_, rfl⟩
  have HB1 : Below w.heap.size w W1 := by rw [hW1]; exact (Below.refl _ _).alloc (Nat.le_refl _) _
  have HRD : Hid (Calls Tryd.prog 27 #[.agg #[.int .i64 (n : Int), pv]] W1 fun e w' => ∃ g, e = .returned (.tuple #[.slice (some ⟨g, 0, none⟩) n n, .int .i64 0]) ∧ Below w.heap.size w w') := (read_ok n es pv W1 (hv.below HB1 (Nat.le_refl _)) hG.bd hG.n1 hG.n6 hG.len hG.irr).mono (by
    rintro e w' ⟨g, h1, h2, h3, h4⟩
    exact ⟨g, h1, HB1.trans (h3.mono HB1.size)⟩)
  clear hv hG HB1
  go_enter Tryd.func23, Tryd.ntmps23
  go_wp2_with fail
  try rw [← hW1]
  refine HRD.out.mono ?_
  rintro e w2 ⟨g, rfl, hb2⟩
  have HB : Hid (Below w.heap.size w w2) := hb2
  clear HRD hb2 hW1
  by_cases k0 : k < 0
  · go_wp2
    exact bodyPost_ret (v := .tuple #[.int .i64 0, .int .i64 0, .int .i64 4]) (by simp [results, Tryd.results23, go_sem]) rfl ⟨rfl, HB.out⟩
  · have k6 : 6 < k := by omega
    go_wp2
    exact bodyPost_ret (v := .tuple #[.int .i64 0, .int .i64 0, .int .i64 4]) (by simp [results, Tryd.results23, go_sem]) rfl ⟨rfl, HB.out⟩

set_option maxRecDepth 100000 in
set_option maxHeartbeats 3200000 in
theorem orderMay_no (N : Int) (zs : List (Int × Int)) (pv : Value) (w : World) (hv : Prs w pv zs) (hE : ¬ rdE N zs = 0) (hl : zs.length ≤ 100) :
    Calls Tryd.prog 4 #[.agg #[.int .i64 N, pv]] w fun e w' => e = .returned (.int .i64 (rdE N zs)) ∧ Below w.heap.size w w' := by
  have HV : Hid (Prs w pv zs) := hv
  obtain ⟨po, pc, hpv, -⟩ := hv
  subst hpv
  obtain ⟨W1, hW1⟩ : ∃ W1, W1 = w.alloc (.cells #[.int .i64 N, .slice po zs.length pc] 24) := ⟨_, rfl⟩
  have HB1 : Hid (Below w.heap.size w W1) := by rw [hW1]; exact (Below.refl _ _).alloc (Nat.le_refl _) _
  have HBA : Hid (Below w.heap.size w (w.alloc (.cells #[.int .i64 N, .slice po zs.length pc] 24))) := (Below.refl _ _).alloc (Nat.le_refl _) _
  by_cases h1 : N < 1
  · have e : rdE N zs = 11 := by rw [rdE, if_pos (.inl h1)]
    rw [e]
    clear hE hW1
    go_enter Tryd.func4, Tryd.ntmps4
    go_wp2
    go_ret
    exact ⟨rfl, HBA.out⟩
  by_cases h6 : 6 < N
  · have e : rdE N zs = 11 := by rw [rdE, if_pos (.inr h6)]
    rw [e]
    clear hE hW1
    go_enter Tryd.func4, Tryd.ntmps4
    go_wp2
    go_ret
    exact ⟨rfl, HBA.out⟩
  by_cases h36 : 36 < zs.length
  · have e : rdE N zs = 2 := by rw [rdE, if_neg (by omega), if_pos h36]
    rw [e]
    have l36 : 36 < (zs.length : Int) := by omega
    clear hE hW1
    go_enter Tryd.func4, Tryd.ntmps4
    go_wp2
    go_ret
    exact ⟨rfl, HBA.out⟩
  obtain ⟨n, hn⟩ : ∃ n : Nat, N = (n : Int) := ⟨N.toNat, by omega⟩
  subst hn
  obtain ⟨pb, hpb⟩ : ∃ pb, pb = w.heap.size := ⟨_, rfl⟩
  have d0 : W1.cell? ⟨pb, 0, none⟩ = some (.int .i64 (n : Int)) := by rw [hW1, hpb]; simp
  have d1 : W1.cell? ⟨pb, 1, none⟩ = some (.slice po zs.length pc) := by rw [hW1, hpb]; simp
  have HE9 : Hid (zs.any (noP (n : Int)) = true → rdE n zs = 9) := fun h => by rw [rdE, if_neg (by omega), if_neg h36, if_pos h]
  have HAO : Hid (zs.any (noP (n : Int)) = false → (rdE n zs = 3 ∧ ∃ i, i < n ∧ (upF n (toNp zs) i).testBit i = true) ∧ (∀ i, upF n (toNp zs) i < 64) ∧ Calls Tryd.prog 5 #[.agg #[.int .i64 (n : Int), .slice po zs.length pc]] W1 fun e w' => ∃ uo uc, e = .returned (.slice uo n uc) ∧ Sl 0 3 w' (.slice uo n uc) (ints (upL n (upF n (toNp zs)))) ∧ Below w.heap.size w w' ∧ w'.cell? ⟨pb, 0, none⟩ = some (.int .i64 (n : Int))) := fun hp => by
    obtain ⟨k1, k2⟩ := np_back hp
    refine ⟨?_, fun i => Nat.lt_of_lt_of_le (war_lt (prF_lt (n := n) (fun e he => (k2 e he).2)) n i) (Nat.pow_le_pow_right (by omega) (by omega : n ≤ 6) : 2 ^ n ≤ 2 ^ 6), ?_⟩
    · have h0 := hE
      unfold rdE at h0 ⊢
      rw [if_neg (by omega), if_neg h36, hp, Int.toNat_natCast] at h0 ⊢
      simp only [Bool.false_eq_true, if_false] at h0 ⊢
      by_cases ha : (List.range n).any (fun i => (upF n (toNp zs) i).testBit i) = true
      · rw [if_pos ha]
        obtain ⟨i, hi, hb⟩ := List.any_eq_true.1 ha
        exact ⟨rfl, i, List.mem_range.1 hi, hb⟩
      · rw [if_neg ha] at h0
        exact absurd rfl h0
    · refine (aboveOf_any n (toNp zs) _ W1 (by rw [k1]; exact HV.out.below HB1.out (Nat.le_refl _)) k2 (by omega) (by simp [toNp]; omega)).mono ?_
      rintro e w' ⟨x, h1, h2, h3⟩
      obtain ⟨uo, uc, rfl⟩ := owns_form h2
      exact ⟨uo, uc, h1, Sl.own h2, HB1.out.trans (h3.mono HB1.out.size), (h3.cell (lt_of_cell d0)).trans d0⟩
  have n1 : ¬ (n : Int) < 1 := by omega
  have n6 : ¬ 6 < (n : Int) := by omega
  have l36 : ¬ 36 < (zs.length : Int) := by omega
  have HHIT : Hid (∀ j, j < zs.length → noP (n : Int) (zs.getD j (0, 0)) = true → zs.any (noP (n : Int)) = true) := fun j hj h => by
    have e : zs.getD j (0, 0) = zs[j] := by simp [hj]
    rw [e] at h
    exact List.any_eq_true.2 ⟨zs[j], List.getElem_mem hj, h⟩
  have HMISS : Hid ((∀ j, j < zs.length → noP (n : Int) (zs.getD j (0, 0)) = false) → zs.any (noP (n : Int)) = false) := fun h => by
    rw [List.any_eq_false]
    intro x hx
    obtain ⟨j, hj, rfl⟩ := List.getElem_of_mem hx
    have := h j hj
    have e : zs.getD j (0, 0) = zs[j] := by simp [hj]
    rw [e] at this
    simp [this]
  generalize rdE n zs = E at *
  clear hE HBA
  have c0 := d0
  have c1 := d1
  clear d0 d1
  go_enter Tryd.func4, Tryd.ntmps4
  go_wp2
  rw [← hW1, ← hpb]
  clear hW1 hpb
  go_loop [3] (fun jv => ∃ j : Nat, j ≤ zs.length ∧ jv = .int .i64 (j : Int) ∧ ∀ j', j' < j → noP (n : Int) (zs.getD j' (0, 0)) = false) (fun jv => zs.length - (intOf jv).toNat)
  case atStart => exact ⟨0, Nat.zero_le _, rfl, fun j' h => by omega⟩
  case round =>
    obtain ⟨j, hj, rfl, hno⟩ := hrel
    have HNO : Hid (∀ j', j' < j → noP (n : Int) (zs.getD j' (0, 0)) = false) := hno
    clear hno
    by_cases hlj : j < zs.length
    · obtain ⟨po2, pc2, hpe, hcs⟩ := HV.out.below HB1.out (Nat.le_refl _)
      obtain ⟨qb, qo, e, p1, p2⟩ := hcs j hlj
      simp only [Value.slice.injEq, true_and] at hpe
      obtain ⟨rfl, rfl⟩ := hpe
      subst e
      have HX : Hid (noP (n : Int) (zs.getD j (0, 0)) = true → E = 9) := fun h => HE9.out (HHIT.out j hlj h)
      have HY : Hid (noP (n : Int) (zs.getD j (0, 0)) = false → ∀ j', j' < j + 1 → noP (n : Int) (zs.getD j' (0, 0)) = false) := fun h j' hj' => by
        by_cases e : j' = j
        · subst e; exact h
        · exact HNO.out j' (by omega)
      have eP : noP (n : Int) (zs.getD j (0, 0)) = (noB n (zs.getD j (0, 0)).1 || noB n (zs.getD j (0, 0)).2) := rfl
      rw [eP] at HX HY
      generalize (zs.getD j (0, 0)).1 = x at *
      generalize (zs.getD j (0, 0)).2 = y at *
      have jI : (j : Int) < (zs.length : Int) := by omega
      have jI0 : (0 : Int) ≤ (j : Int) := by omega
      clear eP
      have HFIN : Hid ((noB n x || noB n y) = true → E = 9) := HX.out
      by_cases x0 : x < 0
      · have hE9 := HFIN.out (by simp [noB, x0])
        subst hE9
        clear HX HY HFIN HE9 HAO
        go_wp2
        go_ret
        exact ⟨rfl, HB1.out⟩
      by_cases y0 : y < 0
      · have hE9 := HFIN.out (by simp [noB, y0])
        subst hE9
        clear HX HY HFIN HE9 HAO
        go_wp2
        go_ret
        exact ⟨rfl, HB1.out⟩
      by_cases xn : (n : Int) ≤ x
      · have hE9 := HFIN.out (by simp [noB, xn])
        subst hE9
        clear HX HY HFIN HE9 HAO
        go_wp2
        go_ret
        exact ⟨rfl, HB1.out⟩
      by_cases yn : (n : Int) ≤ y
      · have hE9 := HFIN.out (by simp [noB, yn])
        subst hE9
        clear HX HY HFIN HE9 HAO
        go_wp2
        go_ret
        exact ⟨rfl, HB1.out⟩
      have HY2 : Hid (∀ j', j' < j + 1 → noP (n : Int) (zs.getD j' (0, 0)) = false) := HY.out (by simp [noB, x0, y0, xn, yn])
      clear HX HY HFIN
      go_wp2
      go_round
      case rel => exact ⟨j + 1, by omega, by go_num, HY2.out⟩
      case measure => simp [intOf]; omega
    · have hje : zs.length = j := by omega
      have hjI : ¬ (j : Int) < (zs.length : Int) := by omega
      have hjN : ¬ j < zs.length := by omega
      have HM := HMISS.out (fun j' hj' => HNO.out j' (by omega))
      obtain ⟨⟨hE3, hcyc⟩, h64, HAX⟩ := HAO.out HM
      have HCY : Hid (∃ i, i < n ∧ (upF n (toNp zs) i).testBit i = true) := hcyc
      have H64 : Hid (∀ i, upF n (toNp zs) i < 64) := h64
      subst hE3
      clear hje HM HAO HE9 HHIT HMISS HNO hcyc h64
      go_wp2_with fail
      refine HAX.mono ?_
      rintro e w2 ⟨uo, uc, rfl, hu, hb2, d0⟩
      have HU : Hid (Sl 0 3 w2 (.slice uo n uc) (ints (upL n (upF n (toNp zs))))) := hu
      have HB2 : Hid (Below w.heap.size w w2) := hb2
      clear HAX hu hb2 c0 c1
      go_wp2
      go_loop [7] (fun iv => ∃ i : Nat, i ≤ n ∧ iv = .int .i64 (i : Int) ∧ ∀ j, j < i → (upF n (toNp zs) j).testBit j = false) (fun iv => n - (intOf iv).toNat)
      case atStart => exact ⟨0, Nat.zero_le _, rfl, fun j hj => by omega⟩
      case round =>
        obtain ⟨i, hi, rfl, hno⟩ := hrel
        have HNO : Hid (∀ j, j < i → (upF n (toNp zs) j).testBit j = false) := hno
        clear hno
        by_cases hlt : i < n
        · obtain ⟨b2, o2, c2, hs, _, hc⟩ := sl_cell HU.out (k := i) (by rw [upL_len]; exact hlt)
          rw [upL_len] at hs
          simp only [Value.slice.injEq, true_and] at hs
          obtain ⟨rfl, rfl⟩ := hs
          rw [upL_at _ hlt] at hc
          have e1 := bitq_tab _ (H64.out i) i (by omega)
          have HNX : Hid ((upF n (toNp zs) i).testBit i = false → ∀ j, j < i + 1 → (upF n (toNp zs) j).testBit j = false) := fun h j hj => by
            by_cases e : j = i
            · subst e; exact h
            · exact HNO.out j (by omega)
          generalize (upF n (toNp zs) i).testBit i = tb at *
          generalize upF n (toNp zs) i = fi at *
          have iI : (i : Int) < (n : Int) := by omega
          have iI0 : (0 : Int) ≤ (i : Int) := by omega
          cases tb
          · have HN2 : Hid (∀ j, j < i + 1 → (upF n (toNp zs) j).testBit j = false) := HNX.out rfl
            simp only [Bool.false_eq_true, if_false] at e1
            clear HNX
            go_wp2
            go_round
            case rel => exact ⟨i + 1, by omega, by go_num, HN2.out⟩
            case measure => simp [intOf]; omega
          · simp only [if_true] at e1
            clear HNX
            go_wp2
            go_ret
            exact ⟨rfl, HB2.out⟩
        · exfalso
          obtain ⟨j, hj, hb⟩ := HCY.out
          rw [HNO.out j (by omega)] at hb
          cases hb

end Go.Proofs.YtcmemhdlendlkaaDoor
