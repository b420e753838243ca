import Derived.Test.YtobcdcmmeabecaaGreatCtF
/- The program: the polynomial of Stanley's numbers, once falling is told. -/
namespace Go.Proofs.YtobcdcmmeabecaaGreat
open Go.RowKit
attribute [local go_sem ↓] Go.wp_at_zero Go.wp_at_succ

/-- The coefficients of the first i terms. -/
def pyS (G : Nat → Int) (FA : Nat → Nat → Int) : Nat → Nat → Int
  | 0, _ => 0
  | i + 1, p => pyS G FA i p + G i * FA i p

theorem pyS_bd {d : Nat} {G : Nat → Int} {FA : Nat → Nat → Int} (hG : ∀ i, i ≤ d → (G i).natAbs ≤ 1000000000000000) (hA : ∀ i p, i ≤ d → p ≤ d → (FA i p).natAbs ≤ 100) : ∀ i p, i ≤ d + 1 → p ≤ d → (pyS G FA i p).natAbs ≤ i * 100000000000000000
  | 0, p, _, _ => by simp [pyS]
  | i + 1, p, hi, hp => by
    have h1 := pyS_bd hG hA i p (by omega) hp
    have h2 : (G i * FA i p).natAbs ≤ 1000000000000000 * 100 := by
      rw [Int.natAbs_mul]
      exact Nat.mul_le_mul (hG i (by omega)) (hA i p (by omega) hp)
    show (pyS G FA i p + G i * FA i p).natAbs ≤ _
    generalize G i * FA i p = q at *
    generalize pyS G FA i p = z at *
    omega

def pyL (d : Nat) (G : Nat → Int) (FA : Nat → Nat → Int) : List Int := (List.range (d + 1)).map (pyS G FA (d + 1))

/-- What falling is to give. -/
def FallOk (d : Nat) (FA : Nat → Nat → Int) : Prop := ∀ (i : Nat) (W : World), i ≤ d → Calls Tryz.prog 51 #[.int .i64 ((d : Int) - (i : Int)), .int .i64 d] W fun e w' => ∃ u, e = .returned u ∧ w'.ownsRow W.heap.size 3 1 u (d + 1) (ints ((List.range (d + 1)).map (FA i))) ∧ Below W.heap.size W w'

set_option maxRecDepth 100000 in
set_option maxHeartbeats 800000 in
theorem polynomial_any (B d : Nat) (l : List Int) (FA : Nat → Nat → Int) (v : Value) (w : World) (hv : Sl B 3 w v (ints l)) (hl : l.length = d + 1) (hd : d ≤ 4) (hb : ∀ i, i ≤ d → (l.getD i 0).natAbs ≤ 1000000000000000) (hA : ∀ i p, i ≤ d → p ≤ d → (FA i p).natAbs ≤ 100) (hfa : FallOk d FA) :
    Calls Tryz.prog 34 #[v, .int .i64 d] w fun e w' => ∃ u, e = .returned u ∧ Sl w'.heap.size 3 w' u (ints (pyL d (fun i => l.getD i 0) FA)) ∧ Below w.heap.size w w' := by
  have hmk := run_make_row' (P := Tryz.prog) 22 3 (.int .i64 0) 8 Tryz.underlying22 Tryz.info3 rfl .i64 .i64 (d + 1) (by omega) (by omega)
  have hmk2 : ∀ w : World, (Instr.makeSlice 22 (.int .i64 ((d : Int) + 1)) (.int .i64 ((d : Int) + 1))).run Tryz.prog w = .ok (.slice (some ⟨w.heap.size, 0, none⟩) (d + 1) (d + 1)) (w.alloc (.cells (madeCells #[.int .i64 0] (d + 1)) 3)) := fun w => by
    have h := hmk w
    rw [show ((d + 1 : Nat) : Int) = (d : Int) + 1 by omega] at h
    exact h
  obtain ⟨ao, cap, hvv, hlc, hcm⟩ := sl_open hv
  rw [hl] at hvv hlc
  subst hvv
  have HV : Hid (Sl w.heap.size 3 w (.slice ao (d + 1) cap) (ints l)) := hv.any (Nat.le_refl _)
  have HL : Hid (l.length = d + 1) := hl
  obtain ⟨G, hG⟩ : ∃ G : Nat → Int, G = fun i => l.getD i 0 := ⟨_, rfl⟩
  have HG : Hid (∀ i, G i = l.getD i 0) := fun i => by rw [hG]
  have HGB : Hid (∀ i, i ≤ d → (G i).natAbs ≤ 1000000000000000) := fun i hi => by rw [hG]; exact hb i hi
  rw [← hG]
  have HFA : Hid (FallOk d FA) := hfa
  have HAB : Hid (∀ i p, i ≤ d → p ≤ d → (FA i p).natAbs ≤ 100) := hA
  obtain ⟨W, hW⟩ : ∃ W, W = w.alloc (.cells (madeCells #[.int .i64 0] (d + 1)) 3) := ⟨_, rfl⟩
  have HRM : Hid (W.rowIs w.heap.size 3 (d + 1) (fun _ => .int .i64 0) ∧ Below w.heap.size w W) := by
    rw [hW]
    exact ⟨World.rowIs_made w (.int .i64 0) (d + 1) 3, (Below.refl _ _).alloc (Nat.le_refl _) _⟩
  have hdp : wrap64 ((d : Int) + 1) = (d : Int) + 1 := IntWalk.wrap64_in _ ⟨by omega, by omega⟩
  clear hv hl hG hb hA hfa hmk
  go_enter Tryz.func34, Tryz.ntmps34
  go_wp2
  rw [← hW]
  clear hW hmk2
  go_loopw [6, 7, 8, 9, 15] (fun _ _ _ _ i wr => ∃ (t : Nat) (F : Nat → Value), t ≤ d + 1 ∧ i = .int .i64 t ∧ wr.rowIs w.heap.size 3 (d + 1) F ∧ (∀ p, p < d + 1 → F p = .int .i64 (pyS G FA t p)) ∧ Below w.heap.size w wr) (fun _ _ _ _ i _ => d + 1 - (intOf i).toNat)
  case atStart => exact ⟨0, _, Nat.zero_le _, rfl, HRM.out.1, fun p hp => rfl, HRM.out.2⟩
  case round =>
    obtain ⟨t, F, htt, rfl, hrow, hF, hbel⟩ := hrel
    have HR : Hid (wr.rowIs w.heap.size 3 (d + 1) F) := hrow
    have HF : Hid (∀ p, p < d + 1 → F p = .int .i64 (pyS G FA t p)) := hF
    have HB : Hid (Below w.heap.size w wr) := hbel
    clear hrow hF hbel
    by_cases hlt : t ≤ d
    · obtain ⟨b1, o1, c1, hs1, _, hcc1⟩ := sl_cell (HV.out.below HB.out (Nat.le_refl _)) (k := t) (by rw [HL.out]; omega)
      rw [HL.out] at hs1
      simp only [Value.slice.injEq, true_and] at hs1
      obtain ⟨rfl, rfl⟩ := hs1
      rw [← HG.out] at hcc1
      have htI : (t : Int) < (d : Int) + 1 := by omega
      have htI0 : (0 : Int) ≤ (t : Int) := by omega
      have htN : t < d + 1 := by omega
      have hzb := HGB.out t hlt
      have HZ : Hid (∀ p, p ≤ d → (G t * FA t p).natAbs ≤ 100000000000000000 ∧ (pyS G FA t p).natAbs ≤ 500000000000000000 ∧ pyS G FA (t + 1) p = pyS G FA t p + G t * FA t p ∧ (FA t p).natAbs ≤ 100) := fun p hp => by
        refine ⟨?_, ?_, rfl, HAB.out t p hlt hp⟩
        · rw [Int.natAbs_mul]
          exact Nat.le_trans (Nat.mul_le_mul (HGB.out t hlt) (HAB.out t p hlt hp)) (by decide)
        · have := pyS_bd HGB.out HAB.out t p (by omega) hp
          exact Nat.le_trans this (Nat.le_trans (Nat.mul_le_mul_right _ (show t ≤ 5 by omega)) (by decide))
      have HFT : Hid (Calls Tryz.prog 51 #[.int .i64 ((d : Int) - (t : Int)), .int .i64 d] wr fun e w' => ∃ u, e = .returned u ∧ w'.ownsRow wr.heap.size 3 1 u (d + 1) (ints ((List.range (d + 1)).map (FA t))) ∧ Below wr.heap.size wr w') := HFA.out t wr hlt
      rename World => wa
      generalize G t = z at *
      go_wp2_with fail
      refine HFT.out.mono ?_
      rintro e w1 ⟨u, rfl, ho1, hb1⟩
      obtain ⟨xo, xc, hux⟩ := owns_form ho1
      subst hux
      have HO1 : Hid (w1.ownsRow wa.heap.size 3 1 (.slice xo (d + 1) xc) (d + 1) (ints ((List.range (d + 1)).map (FA t)))) := ho1
      have HB1 : Hid (Below w.heap.size w w1) := HB.out.trans (hb1.mono HB.out.size)
      have HR1 : Hid (w1.rowIs w.heap.size 3 (d + 1) F) := HR.out.of_block (hb1.block _ HR.out.lt)
      have HLT : Hid (w.heap.size < wa.heap.size) := HR.out.lt
      clear ho1 hb1 hcc1 HFT
      go_wp2
      go_loopw [8, 9, 26] (fun _ _ i wr => ∃ (p : Nat) (F : Nat → Value), p ≤ d + 1 ∧ i = .int .i64 p ∧ wr.rowIs w.heap.size 3 (d + 1) F ∧ (∀ j, j < d + 1 → F j = .int .i64 (if j < p then pyS G FA (t + 1) j else pyS G FA t j)) ∧ wr.ownsRow wa.heap.size 3 1 (.slice xo (d + 1) xc) (d + 1) (ints ((List.range (d + 1)).map (FA t))) ∧ Below w.heap.size w wr) (fun _ _ i _ => d + 1 - (intOf i).toNat)
      case atStart => exact ⟨0, F, Nat.zero_le _, rfl, HR1.out, fun j hj => by rw [if_neg (by omega)]; exact HF.out j hj, HO1.out, HB1.out⟩
      case round =>
        obtain ⟨p, F2, hp, rfl, hrow, hF, ho, hbel⟩ := hrel
        have HR2 : Hid (wr.rowIs w.heap.size 3 (d + 1) F2) := hrow
        have HF2 : Hid (∀ j, j < d + 1 → F2 j = .int .i64 (if j < p then pyS G FA (t + 1) j else pyS G FA t j)) := hF
        have HO2 : Hid (wr.ownsRow wa.heap.size 3 1 (.slice xo (d + 1) xc) (d + 1) (ints ((List.range (d + 1)).map (FA t)))) := ho
        have HB2 : Hid (Below w.heap.size w wr) := hbel
        clear hrow hF ho hbel
        by_cases hpd : p ≤ d
        · obtain ⟨b2, o2, c2, hs2, _, hcc2⟩ := sl_cell ((Sl.own (B := 0) HO2.out).any (Nat.le_refl _)) (k := p) (by simp; omega)
          simp only [List.length_map, List.length_range, Value.slice.injEq, true_and] at hs2
          obtain ⟨rfl, rfl⟩ := hs2
          rw [show ((List.range (d + 1)).map (FA t)).getD p 0 = FA t p by simp [List.getD_eq_getElem?_getD, List.getElem?_range (show p < d + 1 by omega)]] at hcc2
          have ca := HR2.out.cell (i := p) (by omega)
          have cf := HR2.out.frozen p
          rw [HF2.out _ (by omega), if_neg (by omega)] at ca
          obtain ⟨z1, z2, z3, z4⟩ := HZ.out p hpd
          have hw1 : wrap64 (z * FA t p) = z * FA t p := IntWalk.wrap64_in _ ⟨by omega, by omega⟩
          have hw2 : wrap64 (pyS G FA t p + z * FA t p) = pyS G FA t p + z * FA t p := IntWalk.wrap64_in _ ⟨by omega, by omega⟩
          have R1 : Hid ((wr.setCell ⟨w.heap.size, p, none⟩ (.int .i64 (pyS G FA t p + z * FA t p))).rowIs w.heap.size 3 (d + 1) (fun i => if i = p then .int .i64 (pyS G FA t p + z * FA t p) else F2 i)) := HR2.out.set p _
          have R2 : Hid (∀ j, j < d + 1 → (if j = p then Value.int .i64 (pyS G FA t p + z * FA t p) else F2 j) = .int .i64 (if j < p + 1 then pyS G FA (t + 1) j else pyS G FA t j)) := fun j hj => by
            by_cases h1 : j = p
            · rw [if_pos h1, if_pos (by omega), h1, z3]
            · rw [if_neg h1, HF2.out j hj]
              by_cases h2 : j < p
              · rw [if_pos h2, if_pos (by omega)]
              · rw [if_neg h2, if_neg (by omega)]
          have R3 : Hid (Below w.heap.size w (wr.setCell ⟨w.heap.size, p, none⟩ (.int .i64 (pyS G FA t p + z * FA t p)))) := ((Touch.refl _ _).setCell p _).below HB2.out (Nat.le_refl _)
          have R4 : Hid ((wr.setCell ⟨w.heap.size, p, none⟩ (.int .i64 (pyS G FA t p + z * FA t p))).ownsRow wa.heap.size 3 1 (.slice (some ⟨b2, o2, none⟩) (d + 1) xc) (d + 1) (ints ((List.range (d + 1)).map (FA t)))) := owns_set HO2.out HLT.out
          generalize pyS G FA t p = za at *
          generalize FA t p = zb at *
          have h1I : (p : Int) < (d : Int) + 1 := by omega
          have h1I0 : (0 : Int) ≤ (p : Int) := by omega
          have h1N : p < d + 1 := by omega
          clear z1 z2 z3 z4 hpd
          go_wp2
          exact ⟨⟨p + 1, _, h1N, by go_num, R1.out, R2.out, R4.out, R3.out⟩, by simp [intOf]; omega⟩
        · have R2 : Hid (∀ j, j < d + 1 → F2 j = .int .i64 (pyS G FA (t + 1) j)) := fun j hj => by
            rw [HF2.out j hj, if_pos (by omega)]
          have hjI : ¬ ((p : Int) < (d : Int) + 1) := by omega
          clear hp hpd
          go_wp2
          exact ⟨⟨t + 1, F2, htN, by go_num, HR2.out, R2.out, HB2.out⟩, by simp [intOf]; omega⟩
    · have hte : t = d + 1 := by omega
      have HSF : Hid (Sl wr.heap.size 3 wr (.slice (some ⟨w.heap.size, 0, none⟩) (d + 1) (d + 1)) (ints (pyL d G FA))) := by
        unfold pyL
        refine ⟨some ⟨w.heap.size, 0, none⟩, d + 1, by simp, by simp, by unfold maxLen; omega, fun i hi => ?_, fun h => by cases h⟩
        have hi' : i < d + 1 := by simpa using hi
        refine ⟨w.heap.size, 0, rfl, ?_, Or.inl HR.out.lt⟩
        rw [Nat.zero_add, HR.out.cell (by omega), HF.out i hi', ints_get _ _ (by simpa using hi'), hte]
        simp [hi']
      have htI : ¬ ((t : Int) < (d : Int) + 1) := by omega
      clear htt hlt hte
      go_wp2
      go_ret
      exact ⟨_, rfl, HSF.out, HB.out⟩

end Go.Proofs.YtobcdcmmeabecaaGreat

/- The program: Ehrhart, once the field and falling are told. -/
namespace Go.Proofs.YtobcdcmmeabecaaGreat
open Go.RowKit
attribute [local go_sem ↓] Go.wp_at_zero Go.wp_at_succ

theorem dpL_len (d : Nat) (P s : List (List Int)) : (dpL d P s).length = d + 1 := by simp [dpL]

theorem dpL_bd {d : Nat} {P s : List (List Int)} (h : Sml d P) (hs : SAsc s) (hm : ∀ r, r ∈ s ↔ r ∈ rowsD P d) : ∀ i, i ≤ d → ((dpL d P s).getD i 0).natAbs ≤ 1000000000000000 := fun i hi => by
  have hd3 := h.d3
  have e : (dpL d P s).getD i 0 = lsN (d + 1) (fun i => (fsL d P s (d + 1)).getD i 0) i := by
    unfold dpL
    rw [List.getD_eq_getElem?_getD, List.getElem?_map, List.getElem?_range (by omega)]
    rfl
  rw [e]
  have hb : ∀ i, i < d + 1 → ((fsL d P s (d + 1)).getD i 0).natAbs ≤ 20000000000000 := fun i hi => by
    rw [fsL_get hi]
    have := plA_small (k := i) h hs hm (by omega)
    omega
  have h1 := lsN_bd hb (d + 1) i (by omega)
  have h2 : 2 ^ (d + 1) ≤ 2 ^ 4 := Nat.pow_le_pow_right (by decide) (by omega)
  exact Nat.le_trans h1 (Nat.le_trans (Nat.mul_le_mul_right _ h2) (by decide))

set_option maxRecDepth 100000 in
set_option maxHeartbeats 800000 in
theorem ehrhart_any (d : Nat) (P s : List (List Int)) (FA : Nat → Nat → Int) (v : Value) (w : World) (hv : Mat w.heap.size 22 3 w v P) (h : Sml d P) (hs : SAsc s) (hm : ∀ r, r ∈ s ↔ r ∈ rowsD P d) (hF : FieldOk d P s) (hA : ∀ i p, i ≤ d → p ≤ d → (FA i p).natAbs ≤ 100) (hfa : FallOk d FA) :
    Calls Tryz.prog 19 #[.agg #[.int .i64 d, v]] w fun e w' => ∃ u, e = .returned (.tuple #[u, .int .i64 0]) ∧ Sl w'.heap.size 3 w' u (ints (pyL d (fun i => (dpL d P s).getD i 0) FA)) ∧ Below w.heap.size w w' := by
  have hd3 := h.d3
  obtain ⟨b, o, cap, r1, hvv, _, _, _⟩ := mat_cell hv (k := 0) (by have := h.good.n2; omega)
  obtain ⟨vl, hvl⟩ : ∃ vl, vl = P.length := ⟨_, rfl⟩
  rw [← hvl] at hvv
  clear hvl
  subst hvv
  obtain ⟨W, hW⟩ : ∃ W, W = w.alloc (.cells #[.int .i64 d, .slice (some ⟨b, o, none⟩) vl cap] 27) := ⟨_, rfl⟩
  have hbw : Below w.heap.size w W := by rw [hW]; exact (Below.refl _ _).alloc (Nat.le_refl _) _
  have HW : Hid (Below w.heap.size w W) := hbw
  have hsW : W.heap.size = w.heap.size + 1 := by rw [hW]; simp
  have HSW : Hid (w.heap.size ≤ W.heap.size) := by show _ ≤ _; omega
  have c0 : W.cell? ⟨w.heap.size, 0, none⟩ = some (.int .i64 d) := by rw [hW]; simp
  have HKC : Hid (∀ W', Below W.heap.size W W' → W'.cell? ⟨w.heap.size, 0, none⟩ = some (.int .i64 d)) := fun W' h => (h.cell (lt_of_cell c0)).trans c0
  have HDL : Hid (Calls Tryz.prog 18 #[.agg #[.int .i64 d, .slice (some ⟨b, o, none⟩) vl cap]] W fun e w' => ∃ u, e = .returned (.tuple #[u, .int .i64 0]) ∧ Sl w'.heap.size 3 w' u (ints (dpL d P s)) ∧ Below W.heap.size W w') :=
    delta_any d P s _ W ((hv.below hbw (Nat.le_refl _)).any (Nat.le_refl _)) h hs hm hF
  have HPY : Hid (∀ v' W', Sl W'.heap.size 3 W' v' (ints (dpL d P s)) → Calls Tryz.prog 34 #[v', .int .i64 d] W' fun e w' => ∃ u, e = .returned u ∧ Sl w'.heap.size 3 w' u (ints (pyL d (fun i => (dpL d P s).getD i 0) FA)) ∧ Below W'.heap.size W' w') := fun v' W' h1 =>
    polynomial_any W'.heap.size d (dpL d P s) FA v' W' h1 (dpL_len _ _ _) (by omega) (dpL_bd h hs hm) hA hfa
  generalize pyL d (fun i => (dpL d P s).getD i 0) FA = PL at *
  clear hv hbw hsW c0 hF hfa hA
  go_enter Tryz.func19, Tryz.ntmps19
  go_wp2_with fail
  rw [← hW]
  clear hW
  refine HDL.out.mono ?_
  rintro e w1 ⟨u, rfl, hs1, hb1⟩
  have HS1 : Hid (Sl w1.heap.size 3 w1 u (ints (dpL d P s))) := hs1
  have HB1 : Hid (Below w.heap.size w w1) := HW.out.trans (hb1.mono HSW.out)
  have k0 := HKC.out w1 hb1
  clear hs1 hb1
  go_wp2_with fail
  refine (HPY.out u w1 HS1.out).mono ?_
  rintro e w2 ⟨u2, rfl, hs2, hb2⟩
  have HR : Hid (Sl w2.heap.size 3 w2 u2 (ints PL) ∧ Below w.heap.size w w2) := ⟨hs2, HB1.out.trans (hb2.mono HB1.out.size)⟩
  clear hs2 hb2 k0
  go_wp2
  go_ret2
  exact ⟨_, rfl, HR.out.1, HR.out.2⟩

end Go.Proofs.YtobcdcmmeabecaaGreat
