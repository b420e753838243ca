import Derived.Test.YtbmncbbibipoaaaGreatCtD
/- The program: the polynomial of Stanley's numbers, once falling is told. -/
namespace Go.Proofs.YtbmncbbibipoaaaGreat
open Go.RowKit
attribute [local go_sem ↓] Go.wp_at_zero Go.wp_at_succ

/-- The coefficients of the first i terms. -/
def pyS (G : Nat → Int) (FA : Nat → Nat → Int) : Nat → Nat → Int
  | 0, _ => 0
  | i + 1, p => pyS G FA i p + G i * FA i p

theorem pyS_bd {d : Nat} {G : Nat → Int} {FA : Nat → Nat → Int} (hG : ∀ i, i ≤ d → (G i).natAbs ≤ 1000000000000000) (hA : ∀ i p, i ≤ d → p ≤ d → (FA i p).natAbs ≤ 100) : ∀ i p, i ≤ d + 1 → p ≤ d → (pyS G FA i p).natAbs ≤ i * 100000000000000000
  | 0, p, _, _ => by simp [pyS]
  | i + 1, p, hi, hp => by
    have h1 := pyS_bd hG hA i p (by omega) hp
    have h2 : (G i * FA i p).natAbs ≤ 1000000000000000 * 100 := by
      rw [Int.natAbs_mul]
      exact Nat.mul_le_mul (hG i (by omega)) (hA i p (by omega) hp)
    show (pyS G FA i p + G i * FA i p).natAbs ≤ _
    generalize G i * FA i p = q at *
    generalize pyS G FA i p = z at *
    omega

def pyL (d : Nat) (G : Nat → Int) (FA : Nat → Nat → Int) : List Int := (List.range (d + 1)).map (pyS G FA (d + 1))

/-- What falling is to give. -/
def FallOk (d : Nat) (FA : Nat → Nat → Int) : Prop := ∀ (i : Nat) (W : World), i ≤ d → Calls Tryz.prog 51 #[.int .i64 ((d : Int) - (i : Int)), .int .i64 d] W fun e w' => ∃ u, e = .returned u ∧ w'.ownsRow W.heap.size 3 1 u (d + 1) (ints ((List.range (d + 1)).map (FA i))) ∧ Below W.heap.size W w'

set_option maxRecDepth 100000 in
set_option maxHeartbeats 800000 in
theorem polynomial_any (B d : Nat) (l : List Int) (FA : Nat → Nat → Int) (v : Value) (w : World) (hv : Sl B 3 w v (ints l)) (hl : l.length = d + 1) (hd : d ≤ 4) (hb : ∀ i, i ≤ d → (l.getD i 0).natAbs ≤ 1000000000000000) (hA : ∀ i p, i ≤ d → p ≤ d → (FA i p).natAbs ≤ 100) (hfa : FallOk d FA) :
    Calls Tryz.prog 34 #[v, .int .i64 d] w fun e w' => ∃ u, e = .returned u ∧ Sl w'.heap.size 3 w' u (ints (pyL d (fun i => l.getD i 0) FA)) ∧ Below w.heap.size w w' := by
  have hmk := run_make_row' (P := Tryz.prog) 22 3 (.int .i64 0) 8 Tryz.underlying22 Tryz.info3 rfl .i64 .i64 (d + 1) (by omega) (by omega)
  have hmk2 : ∀ w : World, (Instr.makeSlice 22 (.int .i64 ((d : Int) + 1)) (.int .i64 ((d : Int) + 1))).run Tryz.prog w = .ok (.slice (some ⟨w.heap.size, 0, none⟩) (d + 1) (d + 1)) (w.alloc (.cells (madeCells #[.int .i64 0] (d + 1)) 3)) := fun w => by
    have h := hmk w
    rw [show ((d + 1 : Nat) : Int) = (d : Int) + 1 by omega] at h
    exact h
  obtain ⟨ao, cap, hvv, hlc, hcm⟩ := sl_open hv
  rw [hl] at hvv hlc
  subst hvv
  have HV : Hid (Sl w.heap.size 3 w (.slice ao (d + 1) cap) (ints l)) := hv.any (Nat.le_refl _)
  have HL : Hid (l.length = d + 1) := hl
  obtain ⟨G, hG⟩ : ∃ G : Nat → Int, G = fun i => l.getD i 0 := ⟨_, rfl⟩
  have HG : Hid (∀ i, G i = l.getD i 0) := fun i => by rw [hG]
  have HGB : Hid (∀ i, i ≤ d → (G i).natAbs ≤ 1000000000000000) := fun i hi => by rw [hG]; exact hb i hi
  rw [← hG]
  have HFA : Hid (FallOk d FA) := hfa
  have HAB : Hid (∀ i p, i ≤ d → p ≤ d → (FA i p).natAbs ≤ 100) := hA
  obtain ⟨W, hW⟩ : ∃ W, W = w.alloc (.cells (madeCells #[.int .i64 0] (d + 1)) 3) := ⟨_, rfl⟩
  have HRM : Hid (W.rowIs w.heap.size 3 (d + 1) (fun _ => .int .i64 0) ∧ Below w.heap.size w W) := by
    rw [hW]
    exact ⟨World.rowIs_made w (.int .i64 0) (d + 1) 3, (Below.refl _ _).alloc (Nat.le_refl _) _⟩
  have hdp : wrap64 ((d : Int) + 1) = (d : Int) + 1 := IntWalk.wrap64_in _ ⟨by omega, by omega⟩
  clear hv hl hG hb hA hfa hmk
  go_enter Tryz.func34, Tryz.ntmps34
  go_wp2
  rw [← hW]
  clear hW hmk2
  go_loopw [6, 7, 8, 9, 15] (fun _ _ _ _ i wr => ∃ (t : Nat) (F : Nat → Value), t ≤ d + 1 ∧ i = .int .i64 t ∧ wr.rowIs w.heap.size 3 (d + 1) F ∧ (∀ p, p < d + 1 → F p = .int .i64 (pyS G FA t p)) ∧ Below w.heap.size w wr) (fun _ _ _ _ i _ => d + 1 - (intOf i).toNat)
  case atStart => exact ⟨0, _, Nat.zero_le _, rfl, HRM.out.1, fun p hp => rfl, HRM.out.2⟩
  case round =>
    obtain ⟨t, F, htt, rfl, hrow, hF, hbel⟩ := hrel
    have HR : Hid (wr.rowIs w.heap.size 3 (d + 1) F) := hrow
    have HF : Hid (∀ p, p < d + 1 → F p = .int .i64 (pyS G FA t p)) := hF
    have HB : Hid (Below w.heap.size w wr) := hbel
    clear hrow hF hbel
    by_cases hlt : t ≤ d
    · obtain ⟨b1, o1, c1, hs1, _, hcc1⟩ := sl_cell (HV.out.below HB.out (Nat.le_refl _)) (k := t) (by rw [HL.out]; omega)
      rw [HL.out] at hs1
      simp only [Value.slice.injEq, true_and] at hs1
      obtain ⟨rfl, rfl⟩ := hs1
      rw [← HG.out] at hcc1
      have htI : (t : Int) < (d : Int) + 1 := by omega
      have htI0 : (0 : Int) ≤ (t : Int) := by omega
      have htN : t < d + 1 := by omega
      have hzb := HGB.out t hlt
      have HZ : Hid (∀ p, p ≤ d → (G t * FA t p).natAbs ≤ 100000000000000000 ∧ (pyS G FA t p).natAbs ≤ 500000000000000000 ∧ pyS G FA (t + 1) p = pyS G FA t p + G t * FA t p ∧ (FA t p).natAbs ≤ 100) := fun p hp => by
        refine ⟨?_, ?_, rfl, HAB.out t p hlt hp⟩
        · rw [Int.natAbs_mul]
          exact Nat.le_trans (Nat.mul_le_mul (HGB.out t hlt) (HAB.out t p hlt hp)) (by decide)
        · have := pyS_bd HGB.out HAB.out t p (by omega) hp
          exact Nat.le_trans this (Nat.le_trans (Nat.mul_le_mul_right _ (show t ≤ 5 by omega)) (by decide))
      have HFT : Hid (Calls Tryz.prog 51 #[.int .i64 ((d : Int) - (t : Int)), .int .i64 d] wr fun e w' => ∃ u, e = .returned u ∧ w'.ownsRow wr.heap.size 3 1 u (d + 1) (ints ((List.range (d + 1)).map (FA t))) ∧ Below wr.heap.size wr w') := HFA.out t wr hlt
      rename World => wa
      generalize G t = z at *
      go_wp2_with fail
      refine HFT.out.mono ?_
      rintro e w1 ⟨u, rfl, ho1, hb1⟩
      obtain ⟨xo, xc, hux⟩ := owns_form ho1
      subst hux
      have HO1 : Hid (w1.ownsRow wa.heap.size 3 1 (.slice xo (d + 1) xc) (d + 1) (ints ((List.range (d + 1)).map (FA t)))) := ho1
      have HB1 : Hid (Below w.heap.size w w1) := HB.out.trans (hb1.mono HB.out.size)
      have HR1 : Hid (w1.rowIs w.heap.size 3 (d + 1) F) := HR.out.of_block (hb1.block _ HR.out.lt)
      have HLT : Hid (w.heap.size < wa.heap.size) := HR.out.lt
      clear ho1 hb1 hcc1 HFT
      go_wp2
      go_loopw [8, 9, 26] (fun _ _ i wr => ∃ (p : Nat) (F : Nat → Value), p ≤ d + 1 ∧ i = .int .i64 p ∧ wr.rowIs w.heap.size 3 (d + 1) F ∧ (∀ j, j < d + 1 → F j = .int .i64 (if j < p then pyS G FA (t + 1) j else pyS G FA t j)) ∧ wr.ownsRow wa.heap.size 3 1 (.slice xo (d + 1) xc) (d + 1) (ints ((List.range (d + 1)).map (FA t))) ∧ Below w.heap.size w wr) (fun _ _ i _ => d + 1 - (intOf i).toNat)
      case atStart => exact ⟨0, F, Nat.zero_le _, rfl, HR1.out, fun j hj => by rw [if_neg (by omega)]; exact HF.out j hj, HO1.out, HB1.out⟩
      case round =>
        obtain ⟨p, F2, hp, rfl, hrow, hF, ho, hbel⟩ := hrel
        have HR2 : Hid (wr.rowIs w.heap.size 3 (d + 1) F2) := hrow
        have HF2 : Hid (∀ j, j < d + 1 → F2 j = .int .i64 (if j < p then pyS G FA (t + 1) j else pyS G FA t j)) := hF
        have HO2 : Hid (wr.ownsRow wa.heap.size 3 1 (.slice xo (d + 1) xc) (d + 1) (ints ((List.range (d + 1)).map (FA t)))) := ho
        have HB2 : Hid (Below w.heap.size w wr) := hbel
        clear hrow hF ho hbel
        by_cases hpd : p ≤ d
        · obtain ⟨b2, o2, c2, hs2, _, hcc2⟩ := sl_cell ((Sl.own (B := 0) HO2.out).any (Nat.le_refl _)) (k := p) (by simp; omega)
          simp only [List.length_map, List.length_range, Value.slice.injEq, true_and] at hs2
          obtain ⟨rfl, rfl⟩ := hs2
          rw [show ((List.range (d + 1)).map (FA t)).getD p 0 = FA t p by simp [List.getD_eq_getElem?_getD, List.getElem?_range (show p < d + 1 by omega)]] at hcc2
          have ca := HR2.out.cell (i := p) (by omega)
          have cf := HR2.out.frozen p
          rw [HF2.out _ (by omega), if_neg (by omega)] at ca
          obtain ⟨z1, z2, z3, z4⟩ := HZ.out p hpd
          have hw1 : wrap64 (z * FA t p) = z * FA t p := IntWalk.wrap64_in _ ⟨by omega, by omega⟩
          have hw2 : wrap64 (pyS G FA t p + z * FA t p) = pyS G FA t p + z * FA t p := IntWalk.wrap64_in _ ⟨by omega, by omega⟩
          have R1 : Hid ((wr.setCell ⟨w.heap.size, p, none⟩ (.int .i64 (pyS G FA t p + z * FA t p))).rowIs w.heap.size 3 (d + 1) (fun i => if i = p then .int .i64 (pyS G FA t p + z * FA t p) else F2 i)) := HR2.out.set p _
          have R2 : Hid (∀ j, j < d + 1 → (if j = p then Value.int .i64 (pyS G FA t p + z * FA t p) else F2 j) = .int .i64 (if j < p + 1 then pyS G FA (t + 1) j else pyS G FA t j)) := fun j hj => by
            by_cases h1 : j = p
            · rw [if_pos h1, if_pos (by omega), h1, z3]
            · rw [if_neg h1, HF2.out j hj]
              by_cases h2 : j < p
              · rw [if_pos h2, if_pos (by omega)]
              · rw [if_neg h2, if_neg (by omega)]
          have R3 : Hid (Below w.heap.size w (wr.setCell ⟨w.heap.size, p, none⟩ (.int .i64 (pyS G FA t p + z * FA t p)))) := ((Touch.refl _ _).setCell p _).below HB2.out (Nat.le_refl _)
          have R4 : Hid ((wr.setCell ⟨w.heap.size, p, none⟩ (.int .i64 (pyS G FA t p + z * FA t p))).ownsRow wa.heap.size 3 1 (.slice (some ⟨b2, o2, none⟩) (d + 1) xc) (d + 1) (ints ((List.range (d + 1)).map (FA t)))) := owns_set HO2.out HLT.out
          generalize pyS G FA t p = za at *
          generalize FA t p = zb at *
          have h1I : (p : Int) < (d : Int) + 1 := by omega
          have h1I0 : (0 : Int) ≤ (p : Int) := by omega
          have h1N : p < d + 1 := by omega
          clear z1 z2 z3 z4 hpd
          go_wp2
          exact ⟨⟨p + 1, _, h1N, by go_num, R1.out, R2.out, R4.out, R3.out⟩, by simp [intOf]; omega⟩
        · have R2 : Hid (∀ j, j < d + 1 → F2 j = .int .i64 (pyS G FA (t + 1) j)) := fun j hj => by
            rw [HF2.out j hj, if_pos (by omega)]
          have hjI : ¬ ((p : Int) < (d : Int) + 1) := by omega
          clear hp hpd
          go_wp2
          exact ⟨⟨t + 1, F2, htN, by go_num, HR2.out, R2.out, HB2.out⟩, by simp [intOf]; omega⟩
    · have hte : t = d + 1 := by omega
      have HSF : Hid (Sl wr.heap.size 3 wr (.slice (some ⟨w.heap.size, 0, none⟩) (d + 1) (d + 1)) (ints (pyL d G FA))) := by
        unfold pyL
        refine ⟨some ⟨w.heap.size, 0, none⟩, d + 1, by simp, by simp, by unfold maxLen; omega, fun i hi => ?_, fun h => by cases h⟩
        have hi' : i < d + 1 := by simpa using hi
        refine ⟨w.heap.size, 0, rfl, ?_, Or.inl HR.out.lt⟩
        rw [Nat.zero_add, HR.out.cell (by omega), HF.out i hi', ints_get _ _ (by simpa using hi'), hte]
        simp [hi']
      have htI : ¬ ((t : Int) < (d : Int) + 1) := by omega
      clear htt hlt hte
      go_wp2
      go_ret
      exact ⟨_, rfl, HSF.out, HB.out⟩

end Go.Proofs.YtbmncbbibipoaaaGreat

/- The program: Ehrhart, once the field and falling are told. -/
namespace Go.Proofs.YtbmncbbibipoaaaGreat
open Go.RowKit
attribute [local go_sem ↓] Go.wp_at_zero Go.wp_at_succ

theorem dpL_len (d : Nat) (P s : List (List Int)) : (dpL d P s).length = d + 1 := by simp [dpL]

theorem dpL_bd {d : Nat} {P s : List (List Int)} (h : Sml d P) (hs : SAsc s) (hm : ∀ r, r ∈ s ↔ r ∈ rowsD P d) : ∀ i, i ≤ d → ((dpL d P s).getD i 0).natAbs ≤ 1000000000000000 := fun i hi => by
  have hd3 := h.d3
  have e : (dpL d P s).getD i 0 = lsN (d + 1) (fun i => (fsL d P s (d + 1)).getD i 0) i := by
    unfold dpL
    rw [List.getD_eq_getElem?_getD, List.getElem?_map, List.getElem?_range (by omega)]
    rfl
  rw [e]
  have hb : ∀ i, i < d + 1 → ((fsL d P s (d + 1)).getD i 0).natAbs ≤ 20000000000000 := fun i hi => by
    rw [fsL_get hi]
    have := plA_small (k := i) h hs hm (by omega)
    omega
  have h1 := lsN_bd hb (d + 1) i (by omega)
  have h2 : 2 ^ (d + 1) ≤ 2 ^ 4 := Nat.pow_le_pow_right (by decide) (by omega)
  exact Nat.le_trans h1 (Nat.le_trans (Nat.mul_le_mul_right _ h2) (by decide))

set_option maxRecDepth 100000 in
set_option maxHeartbeats 800000 in
theorem ehrhart_any (d : Nat) (P s : List (List Int)) (FA : Nat → Nat → Int) (v : Value) (w : World) (hv : Mat w.heap.size 22 3 w v P) (h : Sml d P) (hs : SAsc s) (hm : ∀ r, r ∈ s ↔ r ∈ rowsD P d) (hF : FieldOk d P s) (hA : ∀ i p, i ≤ d → p ≤ d → (FA i p).natAbs ≤ 100) (hfa : FallOk d FA) :
    Calls Tryz.prog 19 #[.agg #[.int .i64 d, v]] w fun e w' => ∃ u, e = .returned (.tuple #[u, .int .i64 0]) ∧ Sl w'.heap.size 3 w' u (ints (pyL d (fun i => (dpL d P s).getD i 0) FA)) ∧ Below w.heap.size w w' := by
  have hd3 := h.d3
  obtain ⟨b, o, cap, r1, hvv, _, _, _⟩ := mat_cell hv (k := 0) (by have := h.good.n2; omega)
  obtain ⟨vl, hvl⟩ : ∃ vl, vl = P.length := ⟨_, rfl⟩
  rw [← hvl] at hvv
  clear hvl
  subst hvv
  obtain ⟨W, hW⟩ : ∃ W, W = w.alloc (.cells #[.int .i64 d, .slice (some ⟨b, o, none⟩) vl cap] 27) := ⟨_, rfl⟩
  have hbw : Below w.heap.size w W := by rw [hW]; exact (Below.refl _ _).alloc (Nat.le_refl _) _
  have HW : Hid (Below w.heap.size w W) := hbw
  have hsW : W.heap.size = w.heap.size + 1 := by rw [hW]; simp
  have HSW : Hid (w.heap.size ≤ W.heap.size) := by show _ ≤ _; omega
  have c0 : W.cell? ⟨w.heap.size, 0, none⟩ = some (.int .i64 d) := by rw [hW]; simp
  have HKC : Hid (∀ W', Below W.heap.size W W' → W'.cell? ⟨w.heap.size, 0, none⟩ = some (.int .i64 d)) := fun W' h => (h.cell (lt_of_cell c0)).trans c0
  have HDL : Hid (Calls Tryz.prog 18 #[.agg #[.int .i64 d, .slice (some ⟨b, o, none⟩) vl cap]] W fun e w' => ∃ u, e = .returned (.tuple #[u, .int .i64 0]) ∧ Sl w'.heap.size 3 w' u (ints (dpL d P s)) ∧ Below W.heap.size W w') :=
    delta_any d P s _ W ((hv.below hbw (Nat.le_refl _)).any (Nat.le_refl _)) h hs hm hF
  have HPY : Hid (∀ v' W', Sl W'.heap.size 3 W' v' (ints (dpL d P s)) → Calls Tryz.prog 34 #[v', .int .i64 d] W' fun e w' => ∃ u, e = .returned u ∧ Sl w'.heap.size 3 w' u (ints (pyL d (fun i => (dpL d P s).getD i 0) FA)) ∧ Below W'.heap.size W' w') := fun v' W' h1 =>
    polynomial_any W'.heap.size d (dpL d P s) FA v' W' h1 (dpL_len _ _ _) (by omega) (dpL_bd h hs hm) hA hfa
  generalize pyL d (fun i => (dpL d P s).getD i 0) FA = PL at *
  clear hv hbw hsW c0 hF hfa hA
  go_enter Tryz.func19, Tryz.ntmps19
  go_wp2_with fail
  rw [← hW]
  clear hW
  refine HDL.out.mono ?_
  rintro e w1 ⟨u, rfl, hs1, hb1⟩
  have HS1 : Hid (Sl w1.heap.size 3 w1 u (ints (dpL d P s))) := hs1
  have HB1 : Hid (Below w.heap.size w w1) := HW.out.trans (hb1.mono HSW.out)
  have k0 := HKC.out w1 hb1
  clear hs1 hb1
  go_wp2_with fail
  refine (HPY.out u w1 HS1.out).mono ?_
  rintro e w2 ⟨u2, rfl, hs2, hb2⟩
  have HR : Hid (Sl w2.heap.size 3 w2 u2 (ints PL) ∧ Below w.heap.size w w2) := ⟨hs2, HB1.out.trans (hb2.mono HB1.out.size)⟩
  clear hs2 hb2 k0
  go_wp2
  go_ret2
  exact ⟨_, rfl, HR.out.1, HR.out.2⟩

end Go.Proofs.YtbmncbbibipoaaaGreat

/- The program: falling. -/
namespace Go.Proofs.YtbmncbbibipoaaaGreat
open Go.RowKit
attribute [local go_sem ↓] Go.wp_at_zero Go.wp_at_succ

/-- The coefficients of (k + top) (k + top - 1) .., i of them. -/
def flN (top : Int) : Nat → Nat → Int
  | 0, p => if p = 0 then 1 else 0
  | i + 1, 0 => flN top i 0 * (top - i)
  | i + 1, p + 1 => flN top i (p + 1) * (top - i) + flN top i p

theorem flN_none (top : Int) : ∀ i p, i < p → flN top i p = 0
  | 0, p, h => by unfold flN; rw [if_neg (by omega)]
  | i + 1, 0, h => by omega
  | i + 1, p + 1, h => by
    unfold flN
    rw [flN_none top i (p + 1) (by omega), flN_none top i p (by omega)]
    simp

theorem flN_bd {top : Int} (h0 : 0 ≤ top) (h3 : top ≤ 3) : ∀ i p, i ≤ 3 → (flN top i p).natAbs ≤ 4 ^ i
  | 0, p, _ => by unfold flN; by_cases h : p = 0 <;> simp [h]
  | i + 1, p, hi => by
    have hm : ∀ q, (flN top i q * (top - i)).natAbs ≤ 4 ^ i * 3 := fun q => by
      rw [Int.natAbs_mul]
      exact Nat.mul_le_mul (flN_bd h0 h3 i q (by omega)) (by omega)
    rw [Nat.pow_succ]
    cases p with
    | zero =>
      show (flN top i 0 * (top - i)).natAbs ≤ _
      have := hm 0
      omega
    | succ p =>
      show (flN top i (p + 1) * (top - i) + flN top i p).natAbs ≤ _
      have h1 := hm (p + 1)
      have h2 := flN_bd h0 h3 i p (by omega)
      generalize flN top i (p + 1) * (top - i) = x at *
      omega

def flL (top : Int) (i n : Nat) : List Int := (List.range n).map (flN top i)

theorem flL_len (top : Int) (i n : Nat) : (flL top i n).length = n := by simp [flL]

theorem flL_get {top : Int} {i n k : Nat} (hk : k < n) : (flL top i n).getD k 0 = flN top i k := by
  unfold flL
  rw [List.getD_eq_getElem?_getD, List.getElem?_map, List.getElem?_range hk]
  rfl

theorem flL_more (top : Int) (i : Nat) : ints (flL top i (i + 1)) ++ [.int .i64 0] = ints (flL top i (i + 1 + 1)) := by
  unfold flL
  rw [List.range_succ (n := i + 1), List.map_append]
  simp [ints, flN_none top i (i + 1) (by omega)]

theorem own_row {B n : Nat} {e : TypeId} {w : World} {v : Value} {l : List Int} (h : w.ownsRow B e 1 v n (ints l)) (hn : 0 < n) : ∃ g cap F, v = .slice (some ⟨g, 0, none⟩) n cap ∧ B ≤ g ∧ w.rowIs g e cap F ∧ (∀ i, i < n → F i = .int .i64 (l.getD i 0)) ∧ n ≤ cap ∧ cap ≤ 9223372036854775807 := by
  obtain ⟨h1, h2⟩ := h
  rcases h2 with ⟨_, h0⟩ | ⟨g, cap, cur, hu, hg, hh, hnc, hcm, hs, htk⟩
  · omega
  · have hll : l.length = n := by simpa [ints] using h1
    refine ⟨g, cap, fun i => cur.toList.getD i (.int .i64 0), hu, hg, ⟨cur, hh, by omega, fun i hi => ?_⟩, fun i hi => ?_, hnc, by unfold maxLen at hcm; exact hcm⟩
    · show cur[i]? = some (cur.toList.getD i (.int .i64 0))
      rw [← Array.getElem?_toList, List.getD_eq_getElem?_getD, List.getElem?_eq_getElem (by simp; omega)]; rfl
    · have e1 : cur.toList.getD i (.int .i64 0) = (ints l).getD i (.int .i64 0) := by
        rw [← htk]
        simp only [List.getD_eq_getElem?_getD]
        rw [List.getElem?_take_of_lt (by omega)]
      show cur.toList.getD i (.int .i64 0) = _
      rw [e1]
      simp [ints, show i < l.length by omega]

theorem row_own {B g n cap : Nat} {e : TypeId} {w : World} {F : Nat → Value} {l : List Int} (h : w.rowIs g e cap F) (hB : B ≤ g) (hl : l.length = n) (hF : ∀ i, i < n → F i = .int .i64 (l.getD i 0)) (hnc : n ≤ cap) (hcm : cap ≤ 9223372036854775807) : w.ownsRow B e 1 (.slice (some ⟨g, 0, none⟩) n cap) n (ints l) := by
  obtain ⟨cur, hh, hs, hc⟩ := h
  refine ⟨by simp [ints, hl], Or.inr ⟨g, cap, cur, rfl, hB, hh, hnc, by unfold maxLen; exact hcm, by omega, ?_⟩⟩
  apply List.ext_getElem?
  intro i
  rw [Nat.mul_one]
  by_cases hi : i < n
  · rw [List.getElem?_take_of_lt hi, Array.getElem?_toList, hc i (by omega), hF i hi]
    simp [ints, show i < l.length by omega]
  · rw [List.getElem?_eq_none (by simp; omega), List.getElem?_eq_none (by simp [ints]; omega)]

end Go.Proofs.YtbmncbbibipoaaaGreat

/- The program: the walk of falling. -/
namespace Go.Proofs.YtbmncbbibipoaaaGreat
open Go.RowKit
attribute [local go_sem ↓] Go.wp_at_zero Go.wp_at_succ

set_option maxRecDepth 100000 in
set_option maxHeartbeats 1600000 in
theorem falling_any (m : Nat) (top : Int) (w : World) (hm : m ≤ 3) (h0 : 0 ≤ top) (h3 : top ≤ 3) :
    Calls Tryz.prog 51 #[.int .i64 top, .int .i64 m] w fun e w' => ∃ u, e = .returned u ∧ w'.ownsRow w.heap.size 3 1 u (m + 1) (ints (flL top m (m + 1))) ∧ Below w.heap.size w w' := by
  obtain ⟨i3, hi3, hz30, hz31, hz32⟩ := info_parts Tryz.info3
  have HBD : Hid (∀ i p, i ≤ 3 → (flN top i p).natAbs ≤ 64) := fun i p hi => Nat.le_trans (flN_bd h0 h3 i p hi) (Nat.le_trans (Nat.pow_le_pow_right (by decide) hi) (by decide))
  obtain ⟨W, hW⟩ : ∃ W, W = w.alloc (.cells #[.int .i64 1] 3) := ⟨_, rfl⟩
  have HIN : Hid (W.ownsRow w.heap.size 3 1 (.slice (some ⟨w.heap.size, 0, none⟩) 1 1) 1 (ints (flL top 0 1)) ∧ Below w.heap.size w W) := by
    rw [hW]
    refine ⟨?_, (Below.refl _ _).alloc (Nat.le_refl _) _⟩
    have := World.ownsRow_lit (base := w.heap.size) (e := 3) (size := 1) w #[.int .i64 1] 1 (Nat.le_refl _) (by decide) rfl
    exact this
  go_enter Tryz.func51, Tryz.ntmps51
  go_wp2
  rw [← hW]
  clear hW
  go_loopw [5, 6, 7, 10] (fun x _ _ i wr => ∃ q : Nat, q ≤ m ∧ i = .int .i64 q ∧ wr.ownsRow w.heap.size 3 1 x (q + 1) (ints (flL top q (q + 1))) ∧ Below w.heap.size w wr) (fun _ _ _ i _ => m - (intOf i).toNat)
  case atStart => exact ⟨0, Nat.zero_le _, rfl, HIN.out.1, HIN.out.2⟩
  case round =>
    obtain ⟨q, hq, rfl, ho, hbel⟩ := hrel
    rename World => wa
    have HO : Hid (wa.ownsRow w.heap.size 3 1 u5 (q + 1) (ints (flL top q (q + 1)))) := ho
    have HB : Hid (Below w.heap.size w wa) := hbel
    have hsz : w.heap.size ≤ wa.heap.size := hbel.size
    clear ho hbel
    by_cases hqm : q < m
    · have hqI : (q : Int) < (m : Int) := by omega
      go_wp2_with (first | (at_builtin; refine wpList_append_own _ rfl _ _ 22 rfl w.heap.size 3 i3 (.int .i64 0) 1 8 Tryz.underlying22 hi3 hz30 hz31 hz32 rfl (by decide) _ _ _ rfl (HO.out.alloc _) ⟨wa.heap.size, 0, none⟩ 1 1 [.int .i64 0] rfl rfl (one_new _ _ _) (one_int _) ?c3 ?c4 ?c5 ?_))
      case c3 => unfold maxLen; omega
      case c4 => omega
      case c5 => first | exact hsz | omega | (simp; omega)
      intro v' w3 ho3 hg3 _
      have hb3 : Below w.heap.size w w3 := (HB.out.alloc hsz _).grown hg3 (by simp; omega) (fun x hx => (HO.out.lt x hx).1)
      have ho4 : w3.ownsRow w.heap.size 3 1 v' (q + 1 + 1) (ints (flL top q (q + 1 + 1))) := by
        rw [← flL_more]
        exact ho3
      obtain ⟨n, hn⟩ : ∃ n, n = q + 1 + 1 := ⟨_, rfl⟩
      rw [← hn] at ho4
      obtain ⟨g, cap, F0, hv', hg, hrow, hF, hnc, hcm⟩ := own_row ho4 (by omega)
      subst hv'
      have HR0 : Hid (w3.rowIs g 3 cap F0 ∧ (∀ p, p < n → F0 p = .int .i64 (flN top q p)) ∧ Below w.heap.size w w3) := ⟨hrow, fun p hp => by rw [hF p hp, flL_get hp], hb3⟩
      have HG : Hid (w.heap.size ≤ g) := hg
      have HN : Hid (n = q + 1 + 1) := hn
      have hnI : (n : Int) = (q : Int) + 2 := by omega
      have hn0 : (0 : Int) ≤ (n : Int) := by omega
      have HNI : Hid ((n : Int) = (q : Int) + 2) := hnI
      have hn6 : n ≤ 6 := by omega
      clear ho3 hg3 ho4 hrow hF hb3 hg hn hnI
      go_wp2
      go_loopw [7] (fun i wr => ∃ (p : Nat) (c : Int) (F : Nat → Value), p ≤ n ∧ c = (p : Int) - 1 ∧ i = .int .i64 c ∧ wr.rowIs g 3 cap F ∧ (∀ j, j < n → F j = .int .i64 (if p ≤ j then flN top (q + 1) j else flN top q j)) ∧ Below w.heap.size w wr) (fun i _ => (intOf i + 1).toNat)
      case atStart => exact ⟨n, _, F0, Nat.le_refl _, rfl, rfl, HR0.out.1, fun j hj => by rw [if_neg (by omega)]; exact HR0.out.2.1 j hj, HR0.out.2.2⟩
      case round =>
        obtain ⟨p, c, F, hp, hc, rfl, hrow, hF, hbel⟩ := hrel
        have HR : Hid (wr.rowIs g 3 cap F) := hrow
        have HF : Hid (∀ j, j < n → F j = .int .i64 (if p ≤ j then flN top (q + 1) j else flN top q j)) := hF
        have HB2 : Hid (Below w.heap.size w wr) := hbel
        clear hrow hF hbel
        rcases p with _ | p
        · obtain rfl : c = -1 := by omega
          have R1 : Hid (wr.ownsRow w.heap.size 3 1 (.slice (some ⟨g, 0, none⟩) n cap) (q + 1 + 1) (ints (flL top (q + 1) (q + 1 + 1)))) := by
            have h := row_own (l := flL top (q + 1) n) HR.out HG.out (flL_len _ _ _) (fun i hi => by rw [flL_get hi, HF.out i hi, if_pos (Nat.zero_le _)]) hnc hcm
            rw [HN.out] at h ⊢
            exact h
          clear hp hc
          go_wp2
          exact ⟨⟨q + 1, hqm, by go_num, R1.out, HB2.out⟩, by simp [intOf]; omega⟩
        · have ca := HR.out.cell (i := p) (by omega)
          have cf := HR.out.frozen p
          rw [HF.out p (by omega), if_neg (by omega)] at ca
          have hb1 := HBD.out q p (by omega)
          have hmul : (flN top q p * (top - (q : Int))).natAbs ≤ 64 * 3 := by
            rw [Int.natAbs_mul]
            exact Nat.mul_le_mul hb1 (by omega)
          have hw1 : wrap64 (flN top q p * (top - (q : Int))) = flN top q p * (top - (q : Int)) := IntWalk.wrap64_in _ ⟨by omega, by omega⟩
          have hw0 : wrap64 (top - (q : Int)) = top - (q : Int) := IntWalk.wrap64_in _ ⟨by omega, by omega⟩
          obtain ⟨x, hx⟩ : ∃ x, x = flN top q p * (top - (q : Int)) := ⟨_, rfl⟩
          obtain ⟨Z, hZ⟩ : ∃ Z, Z = wr.setCell ⟨g, p, none⟩ (.int .i64 x) := ⟨_, rfl⟩
          have HRZ : Hid (Z.rowIs g 3 cap (fun i => if i = p then .int .i64 x else F i)) := by rw [hZ]; exact HR.out.set p _
          have HBZ : Hid (Below w.heap.size w Z) := by rw [hZ]; exact ((Touch.refl _ _).setCell p _).below HB2.out HG.out
          rw [← hx] at hw1 hmul
          rcases p with _ | p
          · obtain rfl : c = 0 := by omega
            have R2 : Hid (∀ j, j < n → (if j = 0 then Value.int .i64 x else F j) = .int .i64 (if 0 ≤ j then flN top (q + 1) j else flN top q j)) := fun j hj => by
              rw [if_pos (Nat.zero_le _)]
              by_cases h1 : j = 0
              · rw [if_pos h1, h1, hx]; rfl
              · rw [if_neg h1, HF.out j hj, if_pos (by omega)]
            have hn1 : (0 : Int) < (n : Int) := by omega
            have hn2 : 0 < n := by omega
            have HXX : Hid (x = flN top q 0 * (top - (q : Int))) := hx
            generalize flN top q 0 = za at *
            rw [hx] at hw1 hZ
            clear hp hc hb1 hmul
            go_wp2
            rw [← hZ]
            exact ⟨⟨0, -1, _, Nat.zero_le _, rfl, by first | rfl | go_num, HRZ.out, R2.out, HBZ.out⟩, by simp [intOf]⟩
          · obtain rfl : c = (p : Int) + 1 := by omega
            have cb := HR.out.cell (i := p) (by omega)
            rw [HF.out p (by omega), if_neg (by omega)] at cb
            have hb2 := HBD.out q p (by omega)
            have za1 : Z.cell? ⟨g, p + 1, none⟩ = some (.int .i64 x) := by rw [HRZ.out.cell (i := p + 1) (by omega), if_pos rfl]
            have zb1 : Z.cell? ⟨g, p, none⟩ = some (.int .i64 (flN top q p)) := by rw [HRZ.out.cell (i := p) (by omega), if_neg (by omega), HF.out p (by omega), if_neg (by omega)]
            have zf1 := HRZ.out.frozen (p + 1)
            have R1 : Hid ((Z.setCell ⟨g, p + 1, none⟩ (.int .i64 (x + flN top q p))).drew.rowIs g 3 cap (fun i => if i = p + 1 then .int .i64 (x + flN top q p) else if i = p + 1 then .int .i64 x else F i)) := (HRZ.out.set (p + 1) _).drew
            have R3 : Hid (Below w.heap.size w (Z.setCell ⟨g, p + 1, none⟩ (.int .i64 (x + flN top q p))).drew) := Below.drew (((Touch.refl _ _).setCell (p + 1) _).below HBZ.out HG.out)
            have R2 : Hid (∀ j, j < n → (if j = p + 1 then Value.int .i64 (x + flN top q p) else if j = p + 1 then .int .i64 x else F j) = .int .i64 (if p + 1 ≤ j then flN top (q + 1) j else flN top q j)) := fun j hj => by
              by_cases h1 : j = p + 1
              · rw [if_pos h1, if_pos (by omega), h1, hx]; rfl
              · rw [if_neg h1, if_neg h1, HF.out j hj]
                by_cases h2 : p + 1 ≤ j
                · rw [if_pos (by omega), if_pos h2]
                · rw [if_neg (by omega), if_neg h2]
            have hw2 : wrap64 (x + flN top q p) = x + flN top q p := IntWalk.wrap64_in _ ⟨by omega, by omega⟩
            generalize flN top q (p + 1) = za at *
            generalize flN top q p = zb at *
            have h1I : (p : Int) + 1 < (n : Int) := by omega
            have h1I0 : (0 : Int) ≤ (p : Int) + 1 := by omega
            have h1N : p + 1 < n := by omega
            have h2N : p < n := by omega
            have h2I : (p : Int) < (n : Int) := by omega
            have h2I0 : (0 : Int) ≤ (p : Int) := by omega
            have h3I : (0 : Int) < (p : Int) + 1 := by omega
            have HX : Hid (za * (top - (q : Int)) = x) := hx.symm
            have hw3 : wrap64 (za * (top - (q : Int))) = x := by rw [HX.out]; exact hw1
            have hZ2 : wr.setCell ⟨g, p + 1, none⟩ (.int .i64 x) = Z := hZ.symm
            clear hp hc hb1 hb2 hmul hx hZ hw1
            go_wp2
            try rw [hZ2]
            clear hZ2 ca cf cb
            go_region
            go_wp2
            exact ⟨⟨p + 1, (p : Int), _, by omega, by omega, by go_num, R1.out, R2.out, R3.out⟩, by simp [intOf]; omega⟩
    · obtain rfl : q = m := by omega
      clear hq hqm
      go_wp2
      go_ret
      exact ⟨_, rfl, HO.out, HB.out⟩

theorem fallOk {d : Nat} (hd : d ≤ 3) : FallOk d (fun i => flN ((d : Int) - (i : Int)) d) := fun i W hi =>
  falling_any d _ W hd (by omega) (by omega)

end Go.Proofs.YtbmncbbibipoaaaGreat

/- Stanley's numbers: the program's and the document's are one. -/
namespace Go.Proofs.YtbmncbbibipoaaaGreat
open Go.RowKit

theorem delta_eq {d : Nat} (h1 : 1 ≤ d) (h3 : d ≤ 3) (G : Nat → Int) : (List.range (d + 1)).map (lsN (d + 1) G) = dlL d G (d + 1) := by
  unfold dlL
  apply List.map_congr_left
  intro i hi
  have hi' : i ≤ d := by have := List.mem_range.1 hi; omega
  obtain rfl | rfl | rfl : d = 1 ∨ d = 2 ∨ d = 3 := by omega
  · obtain rfl | rfl : i = 0 ∨ i = 1 := by omega
    · simp [lsN, lsF, dlT, sg, wy, upN, upF, unt]
    · simp [lsN, lsF, dlT, sg, wy, upN, upF, unt]; omega
  · obtain rfl | rfl | rfl : i = 0 ∨ i = 1 ∨ i = 2 := by omega
    · simp [lsN, lsF, dlT, sg, wy, upN, upF, unt]
    · simp [lsN, lsF, dlT, sg, wy, upN, upF, unt]; omega
    · simp [lsN, lsF, dlT, sg, wy, upN, upF, unt]; omega
  · obtain rfl | rfl | rfl | rfl : i = 0 ∨ i = 1 ∨ i = 2 ∨ i = 3 := by omega
    · simp [lsN, lsF, dlT, sg, wy, upN, upF, unt]
    · simp [lsN, lsF, dlT, sg, wy, upN, upF, unt]; omega
    · simp [lsN, lsF, dlT, sg, wy, upN, upF, unt]; omega
    · simp [lsN, lsF, dlT, sg, wy, upN, upF, unt]; omega

theorem dpL_eq {d : Nat} (h1 : 1 ≤ d) (h3 : d ≤ 3) (P s : List (List Int)) : dpL d P s = dlL d (fun i => (fsL d P s (d + 1)).getD i 0) (d + 1) := delta_eq h1 h3 _

end Go.Proofs.YtbmncbbibipoaaaGreat

/- Ehrhart's polynomial: the document's way by differences, and that both are one. -/
namespace Go.Proofs.YtbmncbbibipoaaaGreat
open Go.RowKit

/-- The j-th differences. -/
def dfN (G : Nat → Int) : Nat → Nat → Int
  | 0, i => G i
  | j + 1, i => dfN G j (i + 1) - dfN G j i

/-- (j + 1) (j + 2) .., t of them. -/
def fcN (j : Nat) : Nat → Int
  | 0 => 1
  | t + 1 => fcN j t * ((j : Int) + t + 1)

/-- The coefficients of the first j terms. -/
def eoS (d : Nat) (G : Nat → Int) : Nat → Nat → Int
  | 0, _ => 0
  | j + 1, p => eoS d G j p + dfN G j 0 * fcN j (d - j) * flN 0 j p

def eoL (d : Nat) (G : Nat → Int) : List Int := (List.range (d + 1)).map (eoS d G (d + 1))

theorem dlL_get {d n i : Nat} {G : Nat → Int} (hi : i < n) : (dlL d G n).getD i 0 = dlT d G i (i + 1) := by
  unfold dlL
  rw [List.getD_eq_getElem?_getD, List.getElem?_map, List.getElem?_range hi]
  rfl

theorem pyS_congr {G H : Nat → Int} {FA : Nat → Nat → Int} {p : Nat} : ∀ n, (∀ i, i < n → G i = H i) → pyS G FA n p = pyS H FA n p
  | 0, _ => rfl
  | n + 1, h => by
    show pyS G FA n p + G n * FA n p = pyS H FA n p + H n * FA n p
    rw [pyS_congr n (fun i hi => h i (by omega)), h n (by omega)]

set_option maxHeartbeats 1600000 in
theorem ehr_eq {d : Nat} (h1 : 1 ≤ d) (h3 : d ≤ 3) (G : Nat → Int) : pyL d (fun i => (dlL d G (d + 1)).getD i 0) (fun i => flN ((d : Int) - (i : Int)) d) = eoL d G := by
  unfold pyL eoL
  apply List.map_congr_left
  intro p hp
  have hp' : p ≤ d := by have := List.mem_range.1 hp; omega
  rw [pyS_congr (H := fun i => dlT d G i (i + 1)) (d + 1) (fun i hi => dlL_get hi)]
  clear hp
  obtain rfl | rfl | rfl : d = 1 ∨ d = 2 ∨ d = 3 := by omega
  · obtain rfl | rfl : p = 0 ∨ p = 1 := by omega
    all_goals
      simp [pyS, eoS, dfN, fcN, flN, dlT, sg, wy, upN, upF, unt]
      try omega
  · obtain rfl | rfl | rfl : p = 0 ∨ p = 1 ∨ p = 2 := by omega
    all_goals
      simp [pyS, eoS, dfN, fcN, flN, dlT, sg, wy, upN, upF, unt]
      try omega
  · obtain rfl | rfl | rfl | rfl : p = 0 ∨ p = 1 ∨ p = 2 ∨ p = 3 := by omega
    all_goals
      simp [pyS, eoS, dfN, fcN, flN, dlT, sg, wy, upN, upF, unt]
      try omega

end Go.Proofs.YtbmncbbibipoaaaGreat

/- The document's way by differences: bounds and lists. -/
namespace Go.Proofs.YtbmncbbibipoaaaGreat
open Go.RowKit

theorem dfN_bd {d : Nat} {G : Nat → Int} {B : Nat} (h : ∀ i, i ≤ d → (G i).natAbs ≤ B) : ∀ j i, j + i ≤ d → (dfN G j i).natAbs ≤ 2 ^ j * B
  | 0, i, hi => by have := h i (by omega); simpa [dfN] using this
  | j + 1, i, hi => by
    have h1 := dfN_bd h j (i + 1) (by omega)
    have h2 := dfN_bd h j i (by omega)
    show (dfN G j (i + 1) - dfN G j i).natAbs ≤ _
    have e : 2 ^ (j + 1) * B = 2 ^ j * B + 2 ^ j * B := by rw [Nat.pow_succ, Nat.mul_comm (2 ^ j) 2, Nat.mul_assoc]; omega
    rw [e]
    generalize 2 ^ j * B = q at *
    omega

theorem fcN_bd {j : Nat} : ∀ t, j + t ≤ 3 → (fcN j t).natAbs ≤ 3 ^ t
  | 0, _ => by simp [fcN]
  | t + 1, h => by
    show (fcN j t * ((j : Int) + t + 1)).natAbs ≤ _
    rw [Int.natAbs_mul, Nat.pow_succ]
    exact Nat.mul_le_mul (fcN_bd t (by omega)) (by omega)

theorem eterm_bd {d j p : Nat} {G : Nat → Int} (hd : d ≤ 3) (hj : j ≤ d) (h : ∀ i, i ≤ d → (G i).natAbs ≤ 20000000000000) : (dfN G j 0 * fcN j (d - j)).natAbs ≤ 5000000000000000 ∧ (dfN G j 0 * fcN j (d - j) * flN 0 j p).natAbs ≤ 400000000000000000 := by
  have h1 : (dfN G j 0).natAbs ≤ 160000000000000 := Nat.le_trans (dfN_bd h j 0 (by omega)) (Nat.le_trans (Nat.mul_le_mul_right _ (Nat.pow_le_pow_right (by decide) (show j ≤ 3 by omega))) (by decide))
  have h2 : (fcN j (d - j)).natAbs ≤ 27 := Nat.le_trans (fcN_bd (d - j) (by omega)) (Nat.le_trans (Nat.pow_le_pow_right (by decide) (show d - j ≤ 3 by omega)) (by decide))
  have h3 : (flN 0 j p).natAbs ≤ 64 := Nat.le_trans (flN_bd (by decide) (by decide) j p (by omega)) (Nat.le_trans (Nat.pow_le_pow_right (by decide) (show j ≤ 3 by omega)) (by decide))
  have h4 : (dfN G j 0 * fcN j (d - j)).natAbs ≤ 5000000000000000 := by
    rw [Int.natAbs_mul]
    exact Nat.le_trans (Nat.mul_le_mul h1 h2) (by decide)
  refine ⟨h4, ?_⟩
  rw [Int.natAbs_mul]
  exact Nat.le_trans (Nat.mul_le_mul h4 h3) (by decide)

theorem eoS_bd {d p : Nat} {G : Nat → Int} (hd : d ≤ 3) (h : ∀ i, i ≤ d → (G i).natAbs ≤ 20000000000000) : ∀ j, j ≤ d + 1 → (eoS d G j p).natAbs ≤ j * 400000000000000000
  | 0, _ => by simp [eoS]
  | j + 1, hj => by
    have h1 := eoS_bd (p := p) hd h j (by omega)
    have h2 := (eterm_bd (p := p) hd (show j ≤ d by omega) h).2
    show (eoS d G j p + dfN G j 0 * fcN j (d - j) * flN 0 j p).natAbs ≤ _
    generalize dfN G j 0 * fcN j (d - j) * flN 0 j p = q at *
    generalize eoS d G j p = z at *
    omega

/-- The j-th differences, n of them. -/
def dfL (G : Nat → Int) (j n : Nat) : List Int := (List.range n).map (dfN G j)

theorem dfL_len (G : Nat → Int) (j n : Nat) : (dfL G j n).length = n := by simp [dfL]

theorem dfL_succ (G : Nat → Int) (j n : Nat) : ints (dfL G j (n + 1)) = ints (dfL G j n) ++ [.int .i64 (dfN G j n)] := by
  unfold dfL
  rw [List.range_succ, List.map_append]
  simp [ints]

theorem dfL_get {G : Nat → Int} {j n k : Nat} (hk : k < n) : (dfL G j n).getD k 0 = dfN G j k := by
  unfold dfL
  rw [List.getD_eq_getElem?_getD, List.getElem?_map, List.getElem?_range hk]
  rfl

/-- The next base, as far as i numbers of this one have been gone through. -/
def moS (j i p : Nat) : Int := if p < i then flN 0 (j + 1) p else if p = i then (if i = 0 then 0 else flN 0 j (i - 1)) else 0

theorem moS_zero (j p : Nat) : moS j 0 p = 0 := by
  unfold moS
  rw [if_neg (by omega)]
  by_cases h : p = 0 <;> simp [h]

theorem moS_end (j p : Nat) (hp : p ≤ j + 1) : moS j (j + 1) p = flN 0 (j + 1) p := by
  unfold moS
  by_cases h : p < j + 1
  · rw [if_pos h]
  · rw [if_neg h, if_pos (by omega), if_neg (by omega), show p = j + 1 by omega]
    show flN 0 j j = flN 0 j (j + 1) * (0 - (j : Int)) + flN 0 j j
    rw [flN_none 0 j (j + 1) (by omega)]
    simp

/-- What a round makes of the number at i, and of the one behind it. -/
theorem moS_step (j i p : Nat) : moS j (i + 1) p = if p = i then moS j i i - (j : Int) * flN 0 j i else if p = i + 1 then flN 0 j i else moS j i p := by
  unfold moS
  by_cases h1 : p = i
  · rw [if_pos (by omega), if_pos h1, if_neg (by omega), if_pos rfl, h1]
    cases i with
    | zero =>
      show flN 0 j 0 * (0 - (j : Int)) = _
      rw [if_pos rfl, Int.zero_sub, Int.mul_neg, Int.mul_comm, Int.zero_sub]
    | succ i =>
      show flN 0 j (i + 1) * (0 - (j : Int)) + flN 0 j i = _
      rw [if_neg (by omega), Int.zero_sub, Int.mul_neg, Int.mul_comm, Nat.add_sub_cancel]
      generalize (j : Int) * flN 0 j (i + 1) = q
      omega
  · rw [if_neg h1]
    by_cases h2 : p = i + 1
    · rw [if_neg (by omega), if_pos h2, if_neg (by omega), if_pos h2, Nat.add_sub_cancel]
    · by_cases h3 : p < i
      · simp only [if_neg h2, if_pos h3, if_pos (show p < i + 1 by omega)]
      · simp only [if_neg h1, if_neg h2, if_neg h3, if_neg (show ¬ p < i + 1 by omega)]

theorem moS_next (j i : Nat) : moS j i (i + 1) = 0 := by
  unfold moS
  rw [if_neg (by omega), if_neg (by omega)]

theorem moS_bd {j i p : Nat} (hj : j ≤ 3) : (moS j i p).natAbs ≤ 256 := by
  have hf : ∀ q, (flN 0 j q).natAbs ≤ 64 := fun q => Nat.le_trans (flN_bd (by decide) (by decide) j q hj) (Nat.le_trans (Nat.pow_le_pow_right (by decide) hj) (by decide))
  have hm : ∀ q, (flN 0 j q * (0 - (j : Int))).natAbs ≤ 64 * 3 := fun q => by
    rw [Int.natAbs_mul]
    exact Nat.mul_le_mul (hf q) (by omega)
  unfold moS
  split
  · cases p with
    | zero =>
      show (flN 0 j 0 * (0 - (j : Int))).natAbs ≤ _
      have := hm 0
      omega
    | succ p =>
      show (flN 0 j (p + 1) * (0 - (j : Int)) + flN 0 j p).natAbs ≤ _
      have h1 := hm (p + 1)
      have h2 := hf p
      generalize flN 0 j (p + 1) * (0 - (j : Int)) = q at *
      omega
  · split
    · split
      · simp
      · have := hf (i - 1); omega
    · simp

end Go.Proofs.YtbmncbbibipoaaaGreat
